/-
  Subspaces, of the program: vectors inserted one after another, spans.
  Subspaces, of the program: the generic comparison of two spaces.
  Subspaces, of the program: sums.
  Subspaces, of the program: innovation, subspaces, orthogonal spaces, coordinates, intersections.
  Subspaces, of the program: intersections.
  Subspaces, of the program: all contracts of chapter 9.
-/
import Derived.Test.YtefcfeikooknmaaGreatGP
import Derived.Test.YtefcfeikooknmaaGreatGN
namespace Go.Proofs.YtefcfeikooknmaaGreat.SubI
open Go.ChangeShapes Go.WideShapes Go.ChangeAt Go.RowKit
open Go.Proofs.YtefcfeikooknmaaGreat.Drawn Go.Proofs.YtefcfeikooknmaaGreat.Seq Go.Proofs.YtefcfeikooknmaaGreat.Help Go.Proofs.YtefcfeikooknmaaGreat.Field Go.Proofs.YtefcfeikooknmaaGreat.Vec Go.Proofs.YtefcfeikooknmaaGreat.Mat Go.Proofs.YtefcfeikooknmaaGreat.MatP Go.Proofs.YtefcfeikooknmaaGreat.Lin Go.Proofs.YtefcfeikooknmaaGreat.Rref Go.Proofs.YtefcfeikooknmaaGreat.Shape Go.Proofs.YtefcfeikooknmaaGreat.Bas Go.Proofs.YtefcfeikooknmaaGreat.BasW Go.Proofs.YtefcfeikooknmaaGreat.BasI Go.Proofs.YtefcfeikooknmaaGreat.SubW

theorem insert_zero (v : List Int) : insertV 0 [] v = [] := by
  refine insertV_no ?_
  cases hF : fits 0 [] v
  · unfold inserted; rw [hF]; rfl
  · have hl : v.length = 0 := by have := (fits_iff.1 hF).2.2; omega
    obtain rfl := List.eq_nil_of_length_eq_zero hl
    rcases insert_case hF (form_nil (Nat.zero_le 40)) rfl (fun j _ => by have := toV_supp ([] : List Int) j (Nat.zero_le _); exact this) with ⟨_, h⟩ | ⟨k, t, _, hk, _⟩
    · exact h
    · exact absurd hk (Nat.not_lt_zero _)
theorem span_zero (vs : List (List Int)) : spanL 0 [] vs = [] := by
  unfold spanL
  induction vs with
  | nil => rfl
  | cons v vs ih => rw [List.foldl_cons, insert_zero]; exact ih
theorem span_new (vs : List (List Int)) (W : Int) : spanOf vs W = ((newB W).1, spanL (newB W).1 [] vs) := by
  unfold spanOf newB
  cases inW W
  · show ((0 : Int), ([] : List (List Int))) = (0, spanL 0 [] vs)
    rw [span_zero]
  · rfl
theorem Two.below {w w' : World} {B l : Nat} {ad : Option Addr} (x : Two w w' B ad) (h1 : l ≤ B) (h2 : l ≤ w.heap.size) (hg : ∀ g, ad = some ⟨g, 0, none⟩ → l ≤ g) : Below l w w' :=
  ⟨x.os, x.tape, x.output, x.size, fun k hk => x.block k (by omega) (by omega) fun g e => by have := hg g e; omega⟩
theorem Two.refl (w : World) (B : Nat) (ad : Option Addr) : Two w w B ad := Two.of_below (Below.refl _ _)
set_option maxRecDepth 100000 in
theorem insertAll (w : World) {l l2 h2 B n cap n2 cap2 : Nat} {W : Int} {ad ad2 : Option Addr} {rows vs : List (List Int)} {us : List Value} (hB : Blk w B 26 (.int .i64 W) (.slice ad n cap)) (hw : -9223372036854775808 ≤ W ∧ W ≤ 9223372036854775807)
    (hG : Grid w l w.heap.size 3 61 ad n cap us rows) (hl : l ≤ w.heap.size) (hlB : l ≤ B) (had : ∀ g, ad = some ⟨g, 0, none⟩ → l ≤ g) (hf : Small rows) (s2 : Sls w l2 h2 ad2 n2 cap2 vs) (h2l : h2 ≤ l) :
    Calls Tryz.prog 28 #[.pointer (some ⟨B, 0, none⟩), .slice ad2 n2 cap2] w fun e w' => e = .returned (.tuple #[]) ∧
      (∃ ad' n' cap' us', Blk w' B 26 (.int .i64 W) (.slice ad' n' cap') ∧ Grid w' l w'.heap.size 3 61 ad' n' cap' us' (spanL W rows vs) ∧ ∀ g, ad' = some ⟨g, 0, none⟩ → ad = some ⟨g, 0, none⟩ ∨ w.heap.size ≤ g) ∧ Two w w' B ad := by
  have hbig := s2.big
  have hcap := s2.le
  unfold maxLen at hbig
  have HL := Lib.hid s2.len
  have HB := Lib.hid hB
  have HG := Lib.hid hG
  have HS := Lib.hid (fun w' (b : Below l w w') => s2.below b (.inl h2l))
  clear hB hG s2
  go_enter Tryz.func28, Tryz.ntmps28
  go_wp2
  go_loopw [8] (fun i wr => ∃ (j : Nat) (ad' : Option Addr) (n' cap' : Nat) (us' : List Value), j ≤ n2 ∧ i = .int .i64 j ∧ Blk wr B 26 (.int .i64 W) (.slice ad' n' cap') ∧ Grid wr l wr.heap.size 3 61 ad' n' cap' us' (spanL W rows (vs.take j)) ∧ (∀ g, ad' = some ⟨g, 0, none⟩ → ad = some ⟨g, 0, none⟩ ∨ w.heap.size ≤ g) ∧ Two w wr B ad) (fun i _ => n2 - (intOf i).toNat)
  case atStart => exact ⟨0, _, _, _, _, Nat.zero_le _, rfl, HB.out, HG.out, fun _ h => .inl h, Two.refl _ _ _⟩
  case round =>
    obtain ⟨j, ad', n', cap', us', hj, rfl, hBr, hGr, hgr, ht⟩ := hrel
    have hzr := ht.size
    by_cases hlt : j < n2
    case neg =>
      obtain rfl : j = n2 := by omega
      rw [List.take_of_length_le (Nat.le_of_eq HL.out)] at hGr
      have HBr := Lib.hid hBr
      have HGr := Lib.hid hGr
      have Hgr := Lib.hid hgr
      have HT := Lib.hid ht
      clear hBr hGr hgr ht
      go_wp2
      go_returns
      exact ⟨rfl, ⟨_, _, _, _, HBr.out, HGr.out, Hgr.out⟩, HT.out⟩
    obtain ⟨a, ad3, n3, cap3, xs, rfl, hx, hc⟩ := (HS.out wr (Two.below ht hlB hl had)).at_ hlt
    have KI := Lib.hid (insertP wr hBr hw hGr (by omega) (small_span (vs.take j) hf) hx.sl)
    rw [← spanL_s hx.get] at KI
    have Hgr := Lib.hid hgr
    have HT := Lib.hid ht
    clear hBr hGr hgr ht hx
    go_wp2_with fail
    go_at_call 55
    refine KI.out.mono ?_
    rintro e w2 ⟨rfl, ⟨ad4, n4, cap4, us4, k4, r4, g4⟩, t4⟩
    have HBr := Lib.hid k4
    have HGr := Lib.hid r4
    have Hg4 : Hid (∀ g, ad4 = some ⟨g, 0, none⟩ → ad = some ⟨g, 0, none⟩ ∨ w.heap.size ≤ g) := Lib.hid fun g e => (g4 g e).elim (fun h => Hgr.out g h) fun h => .inr (Nat.le_trans hzr h)
    have HT4 := Lib.hid (HT.out.trans t4 Hgr.out)
    clear k4 r4 g4 t4 KI HT Hgr
    go_wp2
    go_roundw
    case rel => exact ⟨j + 1, _, _, _, _, by omega, by go_num, HBr.out, HGr.out, Hg4.out, HT4.out⟩
    case measure => simp [intOf]; omega
set_option maxRecDepth 100000 in
theorem spanG (w : World) {l h : Nat} {ad : Option Addr} {n cap : Nat} {vs : List (List Int)} (s : Sls w l h ad n cap vs) (W : Int) (h0 : -9223372036854775808 ≤ W) (h1 : W ≤ 9223372036854775807) :
    Calls Tryz.prog 44 #[.slice ad n cap, .int .i64 W] w (Ret (fun w l h u => BasisO w l h u (spanOf vs W)) w) := by
  have HE := Lib.hid (span_new vs W)
  have hin := newB_in h0 h1
  have hR := Blk.new w (.int .i64 0) (.slice none 0 0) 26
  have hb := below_box w (.cells #[.int .i64 0, .slice none 0 0] 26)
  have hz1 : (w.alloc (.cells #[.int .i64 0, .slice none 0 0] 26)).heap.size = w.heap.size + 1 := by simp
  have KN := newP (w.alloc (.cells #[.int .i64 0, .slice none 0 0] 26)) W h0 h1
  rw [HE.out]
  have HS := Lib.hid (fun w' (b : Below w.heap.size w w') => (s.lt (Nat.le_refl _)).below b (.inl (Nat.le_refl _)))
  generalize (newB W).1 = W0 at *
  clear s
  go_enter Tryz.func44, Tryz.ntmps44
  go_wp2_with fail
  go_at_call 29
  generalize w.alloc (.cells #[.int .i64 0, .slice none 0 0] 26) = D at *
  refine KN.mono ?_
  rintro e w2 ⟨rfl, b2⟩
  have z2 := b2.size
  have hR2 := (hR.below b2 (by omega)).alloc (.cells #[.int .i64 W0, .slice none 0 0] 26)
  have hN := Blk.new w2 (.int .i64 W0) (.slice none 0 0) 26
  have hb3 := (hb.trans (b2.mono (by omega))).alloc (by omega) (.cells #[.int .i64 W0, .slice none 0 0] 26)
  have hz3 : (w2.alloc (.cells #[.int .i64 W0, .slice none 0 0] 26)).heap.size = w2.heap.size + 1 := by simp
  clear KN b2 hR hb
  go_wp2_with fail
  go_at_call 28
  generalize w2.alloc (.cells #[.int .i64 W0, .slice none 0 0] 26) = D2 at *
  refine (insertAll D2 (l := w.heap.size) hN hin (Grid.nil _ _ _ _ _ _) (by omega) (by omega) (fun g e => by cases e) (⟨Nat.zero_le _, by simp⟩) (HS.out D2 hb3) (Nat.le_refl _)).mono ?_
  rintro e w4 ⟨rfl, ⟨ad4, n4, cap4, us4, k4, r4, _⟩, t4⟩
  have c0 := k4.c0
  have c1 := k4.c1
  have hm4 := t4.mv (l := w2.heap.size) (h := w2.heap.size + 1) (Nat.le_refl _) (Nat.lt_succ_self _) fun g e => by cases e
  have hR4 := hR2.mv hm4 (.inl (by omega))
  have q0 := hR4.c0
  have q1 := hR4.c1
  have y0 := hR4.f0
  have y1 := hR4.f1
  have hK := (hR4.set0 (.int .i64 W0)).set1 (.slice ad4 n4 cap4)
  have g0 := hK.c0
  have g1 := hK.c1
  have HN := Lib.hid (Grid.set2 r4 hR4 (by decide) (by decide) (.int .i64 W0) (.slice ad4 n4 cap4))
  have HM := Lib.hid (set2_mv w4 w.heap.size (.int .i64 W0) (.slice ad4 n4 cap4))
  have HB4 := Lib.hid (hb3.trans (hm4.below (by omega) (by omega)))
  clear hK r4 t4 k4 hm4 hR4 hR2 hN hb3
  go_wp2
  generalize (w4.setCell ⟨w.heap.size, 0, none⟩ (.int .i64 W0)).setCell ⟨w.heap.size, 1, none⟩ (.slice ad4 n4 cap4) = W9 at *
  refine bodyPost_ret (by simp [results, Tryz.results44, go_sem, g0, g1]; rfl) rfl ?_
  have hm := HM.out
  exact ⟨_, rfl, ⟨_, rfl, hin, _, _, _, _, rfl, HN.out.net⟩, HB4.out.trans (hm.below (Nat.le_refl _) HB4.out.size)⟩
theorem span : SpanOp := fun w l h v vs s _ W h0 h1 => by
  obtain ⟨_, _, _, rfl, s⟩ := s
  exact spanG w s W h0 h1
end Go.Proofs.YtefcfeikooknmaaGreat.SubI
namespace Go.Proofs.YtefcfeikooknmaaGreat.SubI
open Go.ChangeShapes Go.WideShapes Go.ChangeAt Go.RowKit
open Go.Proofs.YtefcfeikooknmaaGreat.Drawn Go.Proofs.YtefcfeikooknmaaGreat.Seq Go.Proofs.YtefcfeikooknmaaGreat.Help Go.Proofs.YtefcfeikooknmaaGreat.Field Go.Proofs.YtefcfeikooknmaaGreat.Vec Go.Proofs.YtefcfeikooknmaaGreat.Mat Go.Proofs.YtefcfeikooknmaaGreat.MatP Go.Proofs.YtefcfeikooknmaaGreat.Lin Go.Proofs.YtefcfeikooknmaaGreat.Rref Go.Proofs.YtefcfeikooknmaaGreat.Shape Go.Proofs.YtefcfeikooknmaaGreat.Bas Go.Proofs.YtefcfeikooknmaaGreat.BasW Go.Proofs.YtefcfeikooknmaaGreat.BasI Go.Proofs.YtefcfeikooknmaaGreat.SubW

theorem pair_yes {a b : Bs} (h : pair a b = true) : isBas a.1 a.2 = true ∧ isBas b.1 b.2 = true ∧ a.1 = b.1 := by
  unfold pair at h
  simp only [Bool.and_eq_true, beq_iff_eq] at h
  exact ⟨h.1.1, h.1.2, h.2⟩
theorem pair_no {a b : Bs} (h : pair a b = false) : (a.1 != b.1) = true ∨ (a.1 = b.1 ∧ (isBas a.1 a.2 = false ∨ (isBas a.1 a.2 = true ∧ isBas b.1 b.2 = false))) := by
  by_cases h1 : a.1 = b.1
  · refine .inr ⟨h1, ?_⟩
    unfold pair at h
    rw [h1] at h ⊢
    cases h2 : isBas b.1 a.2
    · exact .inl rfl
    · cases h3 : isBas b.1 b.2
      · exact .inr ⟨rfl, rfl⟩
      · rw [h2, h3] at h; simp at h
  · exact .inl (by simpa using h1)
set_option maxRecDepth 100000 in
set_option maxHeartbeats 1600000 in
theorem cmp_yes (w : World) {l h l2 h2 : Nat} {va vb : Value} {a b : Bs} (sa : BasisI w l h va a) (hfa : BasisF a) (sb : BasisI w l2 h2 vb b) (hfb : BasisF b) (hp : pair a b = true) (W0 : Int) (ad0 : Option Addr) (n0 cap0 : Nat) (F : FuncId) (hF : ∀ args w, (callFunc F args).run Tryz.prog w = .ok (.enter F args) w) (p q : Addr) (Q : Int → Option Addr → Nat → Nat → World → Prop)
    (HC : ∀ w' R, Below w.heap.size w w' → w.heap.size ≤ R → Blk w' R 26 (.int .i64 0) (.slice none 0 0) → Calls Tryz.prog F #[.pointer (some p), .pointer (some q)] w' fun e w2 => ∃ W ad n cap, e = .returned (.agg #[.int .i64 W, .slice ad n cap]) ∧ Blk w2 R 26 (.int .i64 0) (.slice none 0 0) ∧ Q W ad n cap ((w2.setCell ⟨R, 0, none⟩ (.int .i64 W)).setCell ⟨R, 1, none⟩ (.slice ad n cap))) :
    Calls Tryz.prog 26 #[va, vb, .agg #[.int .i64 W0, .slice ad0 n0 cap0], .func (.func F) #[] #[.pointer (some p), .pointer (some q)]] w fun e w' => ∃ W ad n cap, e = .returned (.agg #[.int .i64 W, .slice ad n cap]) ∧ Q W ad n cap w' := by
  obtain ⟨h1, h3, h4⟩ := pair_yes hp
  obtain ⟨Wa, ra⟩ := a
  obtain ⟨Wb, rb⟩ := b
  obtain ⟨ua, rfl, hwa, ada, na, capa, rfl, sa⟩ := sa
  obtain ⟨ub, rfl, hwb, adb, nb, capb, rfl, sb⟩ := sb
  obtain rfl : Wa = Wb := h4
  have hA := (((Blk.new w (.int .i64 Wa) (.slice ada na capa) 26).alloc (.cells #[.int .i64 Wa, .slice adb nb capb] 26)).alloc (.cells #[.int .i64 W0, .slice ad0 n0 cap0] 26)).alloc (.cells #[.int .i64 0, .slice none 0 0] 26)
  have hB := ((Blk.new (w.alloc (.cells #[.int .i64 Wa, .slice ada na capa] 26)) (.int .i64 Wa) (.slice adb nb capb) 26).alloc (.cells #[.int .i64 W0, .slice ad0 n0 cap0] 26)).alloc (.cells #[.int .i64 0, .slice none 0 0] 26)
  have hR := Blk.new (((w.alloc (.cells #[.int .i64 Wa, .slice ada na capa] 26)).alloc (.cells #[.int .i64 Wa, .slice adb nb capb] 26)).alloc (.cells #[.int .i64 W0, .slice ad0 n0 cap0] 26)) (.int .i64 0) (.slice none 0 0) 26
  have hb : Below w.heap.size w ((((w.alloc (.cells #[.int .i64 Wa, .slice ada na capa] 26)).alloc (.cells #[.int .i64 Wa, .slice adb nb capb] 26)).alloc (.cells #[.int .i64 W0, .slice ad0 n0 cap0] 26)).alloc (.cells #[.int .i64 0, .slice none 0 0] 26)) := (((below_box w _).alloc (by simp) _).alloc (by simp; omega) _).alloc (by simp; omega) _
  have hz : ((((w.alloc (.cells #[.int .i64 Wa, .slice ada na capa] 26)).alloc (.cells #[.int .i64 Wa, .slice adb nb capb] 26)).alloc (.cells #[.int .i64 W0, .slice ad0 n0 cap0] 26)).alloc (.cells #[.int .i64 0, .slice none 0 0] 26)).heap.size = w.heap.size + 1 + 1 + 1 + 1 := by simp
  rw [World.size_alloc] at hB
  rw [World.size_alloc, World.size_alloc, World.size_alloc] at hR
  have sa1 := sa.below hb (.inr (Nat.le_refl _))
  have sb1 := sb.below hb (.inr (Nat.le_refl _))
  clear sa sb
  go_enter Tryz.func26, Tryz.ntmps26
  go_wp2_with fail
  go_at_call 31
  generalize ((((w.alloc (.cells #[.int .i64 Wa, .slice ada na capa] 26)).alloc (.cells #[.int .i64 Wa, .slice adb nb capb] 26)).alloc (.cells #[.int .i64 W0, .slice ad0 n0 cap0] 26)).alloc (.cells #[.int .i64 0, .slice none 0 0] 26)) = D at *
  have K1 := validP D hA.c0 hA.c1 hwa sa1 hfa
  rw [h1] at K1
  refine K1.mono ?_
  rintro e w1 ⟨rfl, b1⟩
  have z1 := b1.size
  have hB1 := hB.below b1 (by omega)
  have K2 := validP w1 hB1.c0 hB1.c1 hwb (sb1.below b1 (.inr (Nat.le_refl _))) hfb
  rw [h3] at K2
  have K2 := Lib.hid K2
  have HB1 := Lib.hid (hb.trans (b1.mono (by omega)))
  have HR1 := Lib.hid (hR.below b1 (by omega))
  clear b1 hA hB hB1 hb sa1 sb1 K1 hR h1 h3 hp
  go_wp2_with fail
  go_at_call 31
  refine K2.out.mono ?_
  rintro e w2 ⟨rfl, b2⟩
  have z2 := b2.size
  have HB2 := Lib.hid (HB1.out.trans (b2.mono (by omega)))
  have hR2 := HR1.out.below b2 (by omega)
  have KC := Lib.hid (HC w2 _ HB2.out (by omega) hR2)
  clear b2 hR2 HC HR1 K2
  go_wp2_with fail
  refine KC.out.mono ?_
  rintro e w3 ⟨W3, ad3, n3, cap3, rfl, k3, q3⟩
  have c0 := k3.c0
  have c1 := k3.c1
  have f0 := k3.f0
  have f1 := k3.f1
  have hK := (k3.set0 (.int .i64 W3)).set1 (.slice ad3 n3 cap3)
  have g0 := hK.c0
  have g1 := hK.c1
  have HQ := Lib.hid q3
  clear hK k3 q3 KC
  go_wp2
  generalize (w3.setCell ⟨w.heap.size + 1 + 1 + 1, 0, none⟩ (.int .i64 W3)).setCell ⟨w.heap.size + 1 + 1 + 1, 1, none⟩ (.slice ad3 n3 cap3) = W9 at *
  refine bodyPost_ret (by simp [results, Tryz.results26, go_sem, g0, g1]; rfl) rfl ?_
  exact ⟨_, _, _, _, rfl, HQ.out⟩
set_option maxRecDepth 100000 in
set_option maxHeartbeats 1600000 in
theorem cmp_no (w : World) {l h l2 h2 : Nat} {va vb : Value} {a b : Bs} (sa : BasisI w l h va a) (hfa : BasisF a) (sb : BasisI w l2 h2 vb b) (hfb : BasisF b) (hp : pair a b = false) (W0 : Int) (ad0 : Option Addr) (n0 cap0 : Nat) (F : FuncId) (p q : Addr) : Calls Tryz.prog 26 #[va, vb, .agg #[.int .i64 W0, .slice ad0 n0 cap0], .func (.func F) #[] #[.pointer (some p), .pointer (some q)]] w (Says (.agg #[.int .i64 W0, .slice ad0 n0 cap0]) w) := by
  have hp := pair_no hp
  obtain ⟨Wa, ra⟩ := a
  obtain ⟨Wb, rb⟩ := b
  rcases hp with hne | ⟨h4, hp⟩
  · obtain ⟨ua, rfl, hwa, ada, na, capa, rfl, sa⟩ := sa
    obtain ⟨ub, rfl, hwb, adb, nb, capb, rfl, sb⟩ := sb
    have hA := (((Blk.new w (.int .i64 Wa) (.slice ada na capa) 26).alloc (.cells #[.int .i64 Wb, .slice adb nb capb] 26)).alloc (.cells #[.int .i64 W0, .slice ad0 n0 cap0] 26)).alloc (.cells #[.int .i64 0, .slice none 0 0] 26)
    have hB := ((Blk.new (w.alloc (.cells #[.int .i64 Wa, .slice ada na capa] 26)) (.int .i64 Wb) (.slice adb nb capb) 26).alloc (.cells #[.int .i64 W0, .slice ad0 n0 cap0] 26)).alloc (.cells #[.int .i64 0, .slice none 0 0] 26)
    have hC := (Blk.new ((w.alloc (.cells #[.int .i64 Wa, .slice ada na capa] 26)).alloc (.cells #[.int .i64 Wb, .slice adb nb capb] 26)) (.int .i64 W0) (.slice ad0 n0 cap0) 26).alloc (.cells #[.int .i64 0, .slice none 0 0] 26)
    have hR := Blk.new (((w.alloc (.cells #[.int .i64 Wa, .slice ada na capa] 26)).alloc (.cells #[.int .i64 Wb, .slice adb nb capb] 26)).alloc (.cells #[.int .i64 W0, .slice ad0 n0 cap0] 26)) (.int .i64 0) (.slice none 0 0) 26
    have hb : Below w.heap.size w ((((w.alloc (.cells #[.int .i64 Wa, .slice ada na capa] 26)).alloc (.cells #[.int .i64 Wb, .slice adb nb capb] 26)).alloc (.cells #[.int .i64 W0, .slice ad0 n0 cap0] 26)).alloc (.cells #[.int .i64 0, .slice none 0 0] 26)) := (((below_box w _).alloc (by simp) _).alloc (by simp; omega) _).alloc (by simp; omega) _
    have hz : ((((w.alloc (.cells #[.int .i64 Wa, .slice ada na capa] 26)).alloc (.cells #[.int .i64 Wb, .slice adb nb capb] 26)).alloc (.cells #[.int .i64 W0, .slice ad0 n0 cap0] 26)).alloc (.cells #[.int .i64 0, .slice none 0 0] 26)).heap.size = w.heap.size + 1 + 1 + 1 + 1 := by simp
    rw [World.size_alloc] at hB
    rw [World.size_alloc, World.size_alloc] at hC
    rw [World.size_alloc, World.size_alloc, World.size_alloc] at hR
    clear sa sb
    have a0 := hA.c0
    have b0 := hB.c0
    have d0 := hC.c0
    have d1 := hC.c1
    have hG := Blk.new (((w.alloc (.cells #[.int .i64 Wa, .slice ada na capa] 26)).alloc (.cells #[.int .i64 Wb, .slice adb nb capb] 26)).alloc (.cells #[.int .i64 W0, .slice ad0 n0 cap0] 26)) (.int .i64 W0) (.slice ad0 n0 cap0) 26
    rw [World.size_alloc, World.size_alloc, World.size_alloc] at hG
    have g0 := hG.c0
    have g1 := hG.c1
    have HX : Hid (Below w.heap.size w ((((w.alloc (.cells #[.int .i64 Wa, .slice ada na capa] 26)).alloc (.cells #[.int .i64 Wb, .slice adb nb capb] 26)).alloc (.cells #[.int .i64 W0, .slice ad0 n0 cap0] 26)).alloc (.cells #[.int .i64 W0, .slice ad0 n0 cap0] 26))) := Lib.hid ((((below_box w _).alloc (by simp) _).alloc (by simp; omega) _).alloc (by simp; omega) _)
    clear hA hB hC hR hG hb hz
    go_enter Tryz.func26, Tryz.ntmps26
    go_wp2
    refine bodyPost_ret (by simp [results, Tryz.results26, go_sem, g0, g1]; rfl) rfl ?_
    exact ⟨rfl, HX.out⟩
  · obtain ⟨ua, rfl, hwa, ada, na, capa, rfl, sa⟩ := sa
    obtain ⟨ub, rfl, hwb, adb, nb, capb, rfl, sb⟩ := sb
    obtain rfl : Wa = Wb := h4
    have hA := (((Blk.new w (.int .i64 Wa) (.slice ada na capa) 26).alloc (.cells #[.int .i64 Wa, .slice adb nb capb] 26)).alloc (.cells #[.int .i64 W0, .slice ad0 n0 cap0] 26)).alloc (.cells #[.int .i64 0, .slice none 0 0] 26)
    have hB := ((Blk.new (w.alloc (.cells #[.int .i64 Wa, .slice ada na capa] 26)) (.int .i64 Wa) (.slice adb nb capb) 26).alloc (.cells #[.int .i64 W0, .slice ad0 n0 cap0] 26)).alloc (.cells #[.int .i64 0, .slice none 0 0] 26)
    have hC := (Blk.new ((w.alloc (.cells #[.int .i64 Wa, .slice ada na capa] 26)).alloc (.cells #[.int .i64 Wa, .slice adb nb capb] 26)) (.int .i64 W0) (.slice ad0 n0 cap0) 26).alloc (.cells #[.int .i64 0, .slice none 0 0] 26)
    have hR := Blk.new (((w.alloc (.cells #[.int .i64 Wa, .slice ada na capa] 26)).alloc (.cells #[.int .i64 Wa, .slice adb nb capb] 26)).alloc (.cells #[.int .i64 W0, .slice ad0 n0 cap0] 26)) (.int .i64 0) (.slice none 0 0) 26
    have hb : Below w.heap.size w ((((w.alloc (.cells #[.int .i64 Wa, .slice ada na capa] 26)).alloc (.cells #[.int .i64 Wa, .slice adb nb capb] 26)).alloc (.cells #[.int .i64 W0, .slice ad0 n0 cap0] 26)).alloc (.cells #[.int .i64 0, .slice none 0 0] 26)) := (((below_box w _).alloc (by simp) _).alloc (by simp; omega) _).alloc (by simp; omega) _
    have hz : ((((w.alloc (.cells #[.int .i64 Wa, .slice ada na capa] 26)).alloc (.cells #[.int .i64 Wa, .slice adb nb capb] 26)).alloc (.cells #[.int .i64 W0, .slice ad0 n0 cap0] 26)).alloc (.cells #[.int .i64 0, .slice none 0 0] 26)).heap.size = w.heap.size + 1 + 1 + 1 + 1 := by simp
    rw [World.size_alloc] at hB
    rw [World.size_alloc, World.size_alloc] at hC
    rw [World.size_alloc, World.size_alloc, World.size_alloc] at hR
    have sa1 := sa.below hb (.inr (Nat.le_refl _))
    have sb1 := sb.below hb (.inr (Nat.le_refl _))
    clear sa sb
    have K1 := validP ((((w.alloc (.cells #[.int .i64 Wa, .slice ada na capa] 26)).alloc (.cells #[.int .i64 Wa, .slice adb nb capb] 26)).alloc (.cells #[.int .i64 W0, .slice ad0 n0 cap0] 26)).alloc (.cells #[.int .i64 0, .slice none 0 0] 26)) hA.c0 hA.c1 hwa sa1 hfa
    rcases hp with hp | ⟨h1, h3⟩
    · have hp : isBas Wa ra = false := hp
      rw [hp] at K1
      have K1 := Lib.hid K1
      go_enter Tryz.func26, Tryz.ntmps26
      go_wp2_with fail
      go_at_call 31
      generalize ((((w.alloc (.cells #[.int .i64 Wa, .slice ada na capa] 26)).alloc (.cells #[.int .i64 Wa, .slice adb nb capb] 26)).alloc (.cells #[.int .i64 W0, .slice ad0 n0 cap0] 26)).alloc (.cells #[.int .i64 0, .slice none 0 0] 26)) = D at *
      refine K1.out.mono ?_
      rintro e w1 ⟨rfl, b1⟩
      have z1 := b1.size
      have c0 := (hR.below b1 (by omega)).c0
      have c1 := (hR.below b1 (by omega)).c1
      have f0 := (hR.below b1 (by omega)).f0
      have f1 := (hR.below b1 (by omega)).f1
      have d0 := (hC.below b1 (by omega)).c0
      have d1 := (hC.below b1 (by omega)).c1
      have hK := ((hR.below b1 (by omega)).set0 (.int .i64 W0)).set1 (.slice ad0 n0 cap0)
      have g0 := hK.c0
      have g1 := hK.c1
      have HX := Lib.hid ((hb.trans (b1.mono (by omega))).trans ((set2_mv w1 (w.heap.size + 1 + 1 + 1) (.int .i64 W0) (.slice ad0 n0 cap0)).below (by omega) (by omega)))
      clear hK
      clear b1 hA hB hC hR hb sa1 sb1 K1 hp
      go_wp2
      generalize (w1.setCell ⟨w.heap.size + 1 + 1 + 1, 0, none⟩ (.int .i64 W0)).setCell ⟨w.heap.size + 1 + 1 + 1, 1, none⟩ (.slice ad0 n0 cap0) = W9 at *
      refine bodyPost_ret (by simp [results, Tryz.results26, go_sem, g0, g1]; rfl) rfl ?_
      exact ⟨rfl, HX.out⟩
    · have h1 : isBas Wa ra = true := h1
      have h3 : isBas Wa rb = false := h3
      rw [h1] at K1
      have K1 := Lib.hid K1
      go_enter Tryz.func26, Tryz.ntmps26
      go_wp2_with fail
      go_at_call 31
      generalize ((((w.alloc (.cells #[.int .i64 Wa, .slice ada na capa] 26)).alloc (.cells #[.int .i64 Wa, .slice adb nb capb] 26)).alloc (.cells #[.int .i64 W0, .slice ad0 n0 cap0] 26)).alloc (.cells #[.int .i64 0, .slice none 0 0] 26)) = D at *
      refine K1.out.mono ?_
      rintro e w1 ⟨rfl, b1⟩
      have z1 := b1.size
      have hB1 := hB.below b1 (by omega)
      have K2 := validP w1 hB1.c0 hB1.c1 hwb (sb1.below b1 (.inr (Nat.le_refl _))) hfb
      rw [h3] at K2
      have K2 := Lib.hid K2
      have HB1 := Lib.hid (hb.trans (b1.mono (by omega)))
      have HR1 := Lib.hid (hR.below b1 (by omega))
      have HC1 := Lib.hid (hC.below b1 (by omega))
      clear b1 hA hB hB1 hC hR hb sa1 sb1 K1 h1 h3
      go_wp2_with fail
      go_at_call 31
      refine K2.out.mono ?_
      rintro e w2 ⟨rfl, b2⟩
      have z2 := b2.size
      have c0 := (HR1.out.below b2 (by omega)).c0
      have c1 := (HR1.out.below b2 (by omega)).c1
      have f0 := (HR1.out.below b2 (by omega)).f0
      have f1 := (HR1.out.below b2 (by omega)).f1
      have d0 := (HC1.out.below b2 (by omega)).c0
      have d1 := (HC1.out.below b2 (by omega)).c1
      have hK := ((HR1.out.below b2 (by omega)).set0 (.int .i64 W0)).set1 (.slice ad0 n0 cap0)
      have g0 := hK.c0
      have g1 := hK.c1
      have HX := Lib.hid ((HB1.out.trans (b2.mono (by omega))).trans ((set2_mv w2 (w.heap.size + 1 + 1 + 1) (.int .i64 W0) (.slice ad0 n0 cap0)).below (by omega) (by omega)))
      clear hK
      clear b2 K2
      go_wp2
      generalize (w2.setCell ⟨w.heap.size + 1 + 1 + 1, 0, none⟩ (.int .i64 W0)).setCell ⟨w.heap.size + 1 + 1 + 1, 1, none⟩ (.slice ad0 n0 cap0) = W9 at *
      refine bodyPost_ret (by simp [results, Tryz.results26, go_sem, g0, g1]; rfl) rfl ?_
      exact ⟨rfl, HX.out⟩
set_option maxRecDepth 100000 in
set_option maxHeartbeats 1600000 in
theorem cmpT_yes (w : World) {l h l2 h2 : Nat} {va vb : Value} {a b : Bs} (sa : BasisI w l h va a) (hfa : BasisF a) (sb : BasisI w l2 h2 vb b) (hfb : BasisF b) (hp : pair a b = true) (r0 : Bool) (F : FuncId) (hF : ∀ args w, (callFunc F args).run Tryz.prog w = .ok (.enter F args) w) (p q : Addr) (r : Bool)
    (HC : ∀ w', Below w.heap.size w w' → Calls Tryz.prog F #[.pointer (some p), .pointer (some q)] w' (Says (.bool r) w')) :
    Calls Tryz.prog 32 #[va, vb, .bool r0, .func (.func F) #[] #[.pointer (some p), .pointer (some q)]] w (Says (.bool r) w) := by
  obtain ⟨h1, h3, h4⟩ := pair_yes hp
  obtain ⟨Wa, ra⟩ := a
  obtain ⟨Wb, rb⟩ := b
  obtain ⟨ua, rfl, hwa, ada, na, capa, rfl, sa⟩ := sa
  obtain ⟨ub, rfl, hwb, adb, nb, capb, rfl, sb⟩ := sb
  obtain rfl : Wa = Wb := h4
  have hA := ((Blk.new w (.int .i64 Wa) (.slice ada na capa) 26).alloc (.cells #[.int .i64 Wa, .slice adb nb capb] 26))
  have hB := (Blk.new (w.alloc (.cells #[.int .i64 Wa, .slice ada na capa] 26)) (.int .i64 Wa) (.slice adb nb capb) 26)
  have hb : Below w.heap.size w ((w.alloc (.cells #[.int .i64 Wa, .slice ada na capa] 26)).alloc (.cells #[.int .i64 Wa, .slice adb nb capb] 26)) := (below_box w _).alloc (by simp) _
  have hz : ((w.alloc (.cells #[.int .i64 Wa, .slice ada na capa] 26)).alloc (.cells #[.int .i64 Wa, .slice adb nb capb] 26)).heap.size = w.heap.size + 1 + 1 := by simp
  rw [World.size_alloc] at hB
  have sa1 := sa.below hb (.inr (Nat.le_refl _))
  have sb1 := sb.below hb (.inr (Nat.le_refl _))
  clear sa sb
  go_enter Tryz.func32, Tryz.ntmps32
  go_wp2_with fail
  go_at_call 31
  generalize ((w.alloc (.cells #[.int .i64 Wa, .slice ada na capa] 26)).alloc (.cells #[.int .i64 Wa, .slice adb nb capb] 26)) = D at *
  have K1 := validP D hA.c0 hA.c1 hwa sa1 hfa
  rw [h1] at K1
  refine K1.mono ?_
  rintro e w1 ⟨rfl, b1⟩
  have z1 := b1.size
  have hB1 := hB.below b1 (by omega)
  have K2 := validP w1 hB1.c0 hB1.c1 hwb (sb1.below b1 (.inr (Nat.le_refl _))) hfb
  rw [h3] at K2
  have K2 := Lib.hid K2
  have HB1 := Lib.hid (hb.trans (b1.mono (by omega)))
  clear b1 hA hB hB1 hb sa1 sb1 K1 h1 h3 hp
  go_wp2_with fail
  go_at_call 31
  refine K2.out.mono ?_
  rintro e w2 ⟨rfl, b2⟩
  have z2 := b2.size
  have HB2 := Lib.hid (HB1.out.trans (b2.mono (by omega)))
  have KC := Lib.hid (HC w2 HB2.out)
  clear b2 HC K2
  go_wp2_with fail
  refine KC.out.mono ?_
  rintro e w3 ⟨rfl, b3⟩
  have HB3 := Lib.hid (HB2.out.trans (b3.mono HB2.out.size))
  clear b3 KC
  go_wp2
  go_ret
  exact ⟨rfl, HB3.out⟩
set_option maxRecDepth 100000 in
set_option maxHeartbeats 1600000 in
theorem cmpT_no (w : World) {l h l2 h2 : Nat} {va vb : Value} {a b : Bs} (sa : BasisI w l h va a) (hfa : BasisF a) (sb : BasisI w l2 h2 vb b) (hfb : BasisF b) (hp : pair a b = false) (r0 : Bool) (F : FuncId) (p q : Addr) : Calls Tryz.prog 32 #[va, vb, .bool r0, .func (.func F) #[] #[.pointer (some p), .pointer (some q)]] w (Says (.bool r0) w) := by
  have hp := pair_no hp
  obtain ⟨Wa, ra⟩ := a
  obtain ⟨Wb, rb⟩ := b
  rcases hp with hne | ⟨h4, hp⟩
  · obtain ⟨ua, rfl, hwa, ada, na, capa, rfl, sa⟩ := sa
    obtain ⟨ub, rfl, hwb, adb, nb, capb, rfl, sb⟩ := sb
    have hA := ((Blk.new w (.int .i64 Wa) (.slice ada na capa) 26).alloc (.cells #[.int .i64 Wb, .slice adb nb capb] 26))
    have hB := (Blk.new (w.alloc (.cells #[.int .i64 Wa, .slice ada na capa] 26)) (.int .i64 Wb) (.slice adb nb capb) 26)
    have hb : Below w.heap.size w ((w.alloc (.cells #[.int .i64 Wa, .slice ada na capa] 26)).alloc (.cells #[.int .i64 Wb, .slice adb nb capb] 26)) := (below_box w _).alloc (by simp) _
    have hz : ((w.alloc (.cells #[.int .i64 Wa, .slice ada na capa] 26)).alloc (.cells #[.int .i64 Wb, .slice adb nb capb] 26)).heap.size = w.heap.size + 1 + 1 := by simp
    rw [World.size_alloc] at hB
    clear sa sb
    have a0 := hA.c0
    have b0 := hB.c0
    have HX := Lib.hid (hb)
    clear hA hB hb hz
    go_enter Tryz.func32, Tryz.ntmps32
    go_wp2
    go_ret
    exact ⟨rfl, HX.out⟩
  · obtain ⟨ua, rfl, hwa, ada, na, capa, rfl, sa⟩ := sa
    obtain ⟨ub, rfl, hwb, adb, nb, capb, rfl, sb⟩ := sb
    obtain rfl : Wa = Wb := h4
    have hA := ((Blk.new w (.int .i64 Wa) (.slice ada na capa) 26).alloc (.cells #[.int .i64 Wa, .slice adb nb capb] 26))
    have hB := (Blk.new (w.alloc (.cells #[.int .i64 Wa, .slice ada na capa] 26)) (.int .i64 Wa) (.slice adb nb capb) 26)
    have hb : Below w.heap.size w ((w.alloc (.cells #[.int .i64 Wa, .slice ada na capa] 26)).alloc (.cells #[.int .i64 Wa, .slice adb nb capb] 26)) := (below_box w _).alloc (by simp) _
    have hz : ((w.alloc (.cells #[.int .i64 Wa, .slice ada na capa] 26)).alloc (.cells #[.int .i64 Wa, .slice adb nb capb] 26)).heap.size = w.heap.size + 1 + 1 := by simp
    rw [World.size_alloc] at hB
    have sa1 := sa.below hb (.inr (Nat.le_refl _))
    have sb1 := sb.below hb (.inr (Nat.le_refl _))
    clear sa sb
    have K1 := validP ((w.alloc (.cells #[.int .i64 Wa, .slice ada na capa] 26)).alloc (.cells #[.int .i64 Wa, .slice adb nb capb] 26)) hA.c0 hA.c1 hwa sa1 hfa
    rcases hp with hp | ⟨h1, h3⟩
    · have hp : isBas Wa ra = false := hp
      rw [hp] at K1
      have K1 := Lib.hid K1
      go_enter Tryz.func32, Tryz.ntmps32
      go_wp2_with fail
      go_at_call 31
      generalize ((w.alloc (.cells #[.int .i64 Wa, .slice ada na capa] 26)).alloc (.cells #[.int .i64 Wa, .slice adb nb capb] 26)) = D at *
      refine K1.out.mono ?_
      rintro e w1 ⟨rfl, b1⟩
      have z1 := b1.size
      have HX := Lib.hid (hb.trans (b1.mono (by omega)))
      clear b1 hA hB hb sa1 sb1 K1 hp
      go_wp2
      go_ret
      exact ⟨rfl, HX.out⟩
    · have h1 : isBas Wa ra = true := h1
      have h3 : isBas Wa rb = false := h3
      rw [h1] at K1
      have K1 := Lib.hid K1
      go_enter Tryz.func32, Tryz.ntmps32
      go_wp2_with fail
      go_at_call 31
      generalize ((w.alloc (.cells #[.int .i64 Wa, .slice ada na capa] 26)).alloc (.cells #[.int .i64 Wa, .slice adb nb capb] 26)) = D at *
      refine K1.out.mono ?_
      rintro e w1 ⟨rfl, b1⟩
      have z1 := b1.size
      have hB1 := hB.below b1 (by omega)
      have K2 := validP w1 hB1.c0 hB1.c1 hwb (sb1.below b1 (.inr (Nat.le_refl _))) hfb
      rw [h3] at K2
      have K2 := Lib.hid K2
      have HB1 := Lib.hid (hb.trans (b1.mono (by omega)))
      clear b1 hA hB hB1 hb sa1 sb1 K1 h1 h3
      go_wp2_with fail
      go_at_call 31
      refine K2.out.mono ?_
      rintro e w2 ⟨rfl, b2⟩
      have z2 := b2.size
      have HX := Lib.hid (HB1.out.trans (b2.mono (by omega)))
      clear b2 K2
      go_wp2
      go_ret
      exact ⟨rfl, HX.out⟩
end Go.Proofs.YtefcfeikooknmaaGreat.SubI
namespace Go.Proofs.YtefcfeikooknmaaGreat.SubI
open Go.ChangeShapes Go.WideShapes Go.ChangeAt Go.RowKit
open Go.Proofs.YtefcfeikooknmaaGreat.Drawn Go.Proofs.YtefcfeikooknmaaGreat.Seq Go.Proofs.YtefcfeikooknmaaGreat.Help Go.Proofs.YtefcfeikooknmaaGreat.Field Go.Proofs.YtefcfeikooknmaaGreat.Vec Go.Proofs.YtefcfeikooknmaaGreat.Mat Go.Proofs.YtefcfeikooknmaaGreat.MatP Go.Proofs.YtefcfeikooknmaaGreat.Lin Go.Proofs.YtefcfeikooknmaaGreat.Rref Go.Proofs.YtefcfeikooknmaaGreat.Shape Go.Proofs.YtefcfeikooknmaaGreat.Bas Go.Proofs.YtefcfeikooknmaaGreat.BasW Go.Proofs.YtefcfeikooknmaaGreat.BasI Go.Proofs.YtefcfeikooknmaaGreat.SubW

/-- What the sum's closure leaves. -/
def SumQ (W0 : Int) (l : Nat) (rows : List (List Int)) (w0 : World) (W : Int) (ad : Option Addr) (n cap : Nat) (w9 : World) : Prop := W = W0 ∧ (∃ us', Grid w9 l w9.heap.size 3 61 ad n cap us' rows) ∧ Below l w0 w9
set_option maxRecDepth 100000 in
theorem sumC (w : World) {l l2 h2 B Bb n cap n2 cap2 : Nat} {W : Int} {ad ad2 : Option Addr} {rows vs : List (List Int)} {us : List Value} (hB : Blk w B 26 (.int .i64 W) (.slice ad n cap)) (hw : -9223372036854775808 ≤ W ∧ W ≤ 9223372036854775807)
    (hG : Grid w l w.heap.size 3 61 ad n cap us rows) (hl : l ≤ w.heap.size) (hlB : l ≤ B) (had : ∀ g, ad = some ⟨g, 0, none⟩ → l ≤ g ∧ g < w.heap.size) (hf : Small rows) (c1 : w.cell? ⟨Bb, 1, none⟩ = some (.slice ad2 n2 cap2)) (s2 : Sls w l2 h2 ad2 n2 cap2 vs) (h2l : h2 ≤ l) :
    Calls Tryz.prog 27 #[.pointer (some ⟨B, 0, none⟩), .pointer (some ⟨Bb, 0, none⟩)] w fun e w' => ∃ ad' n' cap' us', e = .returned (.agg #[.int .i64 W, .slice ad' n' cap']) ∧ Grid w' l w'.heap.size 3 61 ad' n' cap' us' (spanL W rows vs) ∧ Two w w' B ad := by
  have hBl := hB.lt
  have hR := Blk.new w (.int .i64 0) (.slice none 0 0) 26
  have hb := below_box w (.cells #[.int .i64 0, .slice none 0 0] 26)
  have hz1 : (w.alloc (.cells #[.int .i64 0, .slice none 0 0] 26)).heap.size = w.heap.size + 1 := by simp
  have hB1 := hB.alloc (.cells #[.int .i64 0, .slice none 0 0] 26)
  have hG1 := (hG.alloc (.cells #[.int .i64 0, .slice none 0 0] 26)).lt
  have s3 := s2.alloc (.cells #[.int .i64 0, .slice none 0 0] 26)
  have d1 := (hb.cell (World.block_lt_of_cell? _ _ c1)).trans c1
  clear hB hG s2 c1
  go_enter Tryz.func27, Tryz.ntmps27
  go_wp2_with fail
  go_at_call 28
  generalize w.alloc (.cells #[.int .i64 0, .slice none 0 0] 26) = D at *
  refine (insertAll D hB1 hw hG1 (by omega) hlB (fun g e => (had g e).1) hf s3 h2l).mono ?_
  rintro e w2 ⟨rfl, ⟨ad4, n4, cap4, us4, k4, r4, _⟩, t4⟩
  have c0 := k4.c0
  have c1 := k4.c1
  have hR2 := t4.blk hR (by omega) fun g e => by have := had g e; omega
  have q0 := hR2.c0
  have q1 := hR2.c1
  have y0 := hR2.f0
  have y1 := hR2.f1
  have hK := (hR2.set0 (.int .i64 W)).set1 (.slice ad4 n4 cap4)
  have g0 := hK.c0
  have g1 := hK.c1
  have HN := Lib.hid (Grid.set2 r4 hR2 (by decide) (by decide) (.int .i64 W) (.slice ad4 n4 cap4))
  have HT := Lib.hid (((Two.of_below hb).trans t4 fun _ h => .inl h).mv_new (set2_mv w2 w.heap.size (.int .i64 W) (.slice ad4 n4 cap4)) (Nat.le_refl _))
  clear hK r4 t4 k4 hR2 hR hB1 hG1 s3 d1 hb
  go_wp2
  generalize (w2.setCell ⟨w.heap.size, 0, none⟩ (.int .i64 W)).setCell ⟨w.heap.size, 1, none⟩ (.slice ad4 n4 cap4) = W9 at *
  refine bodyPost_ret (by simp [results, Tryz.results27, go_sem, g0, g1]; rfl) rfl ?_
  exact ⟨_, _, _, _, rfl, HN.out, HT.out⟩
set_option maxRecDepth 100000 in
set_option maxHeartbeats 1600000 in
theorem sum : SumOp := fun w l h l2 h2 va vb a b sa hfa sb hfb => by
  have hE : sumOf a b = (a.1, bif pair a b then spanL a.1 a.2 b.2 else a.2) := rfl
  have sa0 := sa
  have sb0 := sb
  obtain ⟨Wa, ra⟩ := a
  obtain ⟨Wb, rb⟩ := b
  obtain ⟨ua, rfl, hwa, ada, na, capa, rfl, sa⟩ := sa
  obtain ⟨ub, rfl, hwb, adb, nb, capb, rfl, sb⟩ := sb
  have hA := ((Blk.new w (.int .i64 Wa) (.slice ada na capa) 26).alloc (.cells #[.int .i64 Wb, .slice adb nb capb] 26)).alloc (.cells #[.int .i64 0, .slice none 0 0] 26)
  have hB := (Blk.new (w.alloc (.cells #[.int .i64 Wa, .slice ada na capa] 26)) (.int .i64 Wb) (.slice adb nb capb) 26).alloc (.cells #[.int .i64 0, .slice none 0 0] 26)
  have hR := Blk.new ((w.alloc (.cells #[.int .i64 Wa, .slice ada na capa] 26)).alloc (.cells #[.int .i64 Wb, .slice adb nb capb] 26)) (.int .i64 0) (.slice none 0 0) 26
  have hb : Below w.heap.size w (((w.alloc (.cells #[.int .i64 Wa, .slice ada na capa] 26)).alloc (.cells #[.int .i64 Wb, .slice adb nb capb] 26)).alloc (.cells #[.int .i64 0, .slice none 0 0] 26)) :=
    ((below_box w _).alloc (by simp) _).alloc (by simp; omega) _
  have hz : (((w.alloc (.cells #[.int .i64 Wa, .slice ada na capa] 26)).alloc (.cells #[.int .i64 Wb, .slice adb nb capb] 26)).alloc (.cells #[.int .i64 0, .slice none 0 0] 26)).heap.size = w.heap.size + 1 + 1 + 1 := by simp
  rw [World.size_alloc] at hB
  rw [World.size_alloc, World.size_alloc] at hR
  have sa1 := sa.below hb (.inr (Nat.le_refl _))
  have sbl := sb.lt (Nat.le_refl _)
  have HA0 := Lib.hid (fun w' (hx : Below w.heap.size w w') => And.intro (BasisI_below sa0 hx (.inr (Nat.le_refl _))) (And.intro (BasisI_below sb0 hx (.inr (Nat.le_refl _))) (sbl.below hx (.inl (Nat.le_refl _)))))
  clear sa sb sa0 sb0 sbl
  go_enter Tryz.func8, Tryz.ntmps8
  go_wp2_with fail
  go_at_call 25
  generalize ((w.alloc (.cells #[.int .i64 Wa, .slice ada na capa] 26)).alloc (.cells #[.int .i64 Wb, .slice adb nb capb] 26)).alloc (.cells #[.int .i64 0, .slice none 0 0] 26) = D at *
  refine (cloneP D hA.c0 hA.c1 sa1 hfa).mono ?_
  rintro e w2 ⟨rfl, ⟨us, r2⟩, b2, z2⟩
  obtain ⟨G, hG⟩ : ∃ G, G = D.heap.size + 1 := ⟨_, rfl⟩
  rw [← hG] at r2 z2 ⊢
  have hG1 : D.heap.size + 1 ≤ G := by omega
  have hG2 : G ≤ D.heap.size + 1 := by omega
  clear hG
  have hN := Blk.new w2 (.int .i64 Wa) (.slice (some ⟨G, 0, none⟩) na na) 26
  have hb2 := hb.trans (b2.mono (by omega))
  have hb3 := hb2.alloc hb2.size (.cells #[.int .i64 Wa, .slice (some ⟨G, 0, none⟩) na na] 26)
  have hz3 : (w2.alloc (.cells #[.int .i64 Wa, .slice (some ⟨G, 0, none⟩) na na] 26)).heap.size = w2.heap.size + 1 := by simp
  have hA3 := (hA.below b2 (by omega)).alloc (.cells #[.int .i64 Wa, .slice (some ⟨G, 0, none⟩) na na] 26)
  have hB3 := (hB.below b2 (by omega)).alloc (.cells #[.int .i64 Wa, .slice (some ⟨G, 0, none⟩) na na] 26)
  have hR3 := (hR.below b2 (by omega)).alloc (.cells #[.int .i64 Wa, .slice (some ⟨G, 0, none⟩) na na] 26)
  have hG3 := ((r2.alloc (.cells #[.int .i64 Wa, .slice (some ⟨G, 0, none⟩) na na] 26)).lt).lo (l' := D.heap.size) (by omega)
  clear hA hB hR hb b2 r2 hb2 sa1
  have a0 := hA3.c0
  have a1 := hA3.c1
  have b0 := hB3.c0
  have b1 := hB3.c1
  have n0 := hN.c0
  have n1 := hN.c1
  cases hp : pair (Wa, ra) (Wb, rb)
  · rw [hp] at hE
    have HE := Lib.hid hE
    obtain ⟨sa9, sb9, _⟩ := HA0.out _ hb3
    have KC := Lib.hid (cmp_no _ sa9 hfa sb9 hfb hp Wa (some ⟨G, 0, none⟩) na na 27 ⟨w2.heap.size, 0, none⟩ ⟨w.heap.size + 1, 0, none⟩)
    have HG3 := Lib.hid hG3
    have HR3 := Lib.hid hR3
    have HB3 := Lib.hid hb3
    clear hE hp sa9 sb9 hG3 hR3 hb3 HA0 hA3 hB3 hN
    go_wp2_with fail
    go_at_call 26
    generalize w2.alloc (.cells #[.int .i64 Wa, .slice (some ⟨G, 0, none⟩) na na] 26) = D3 at *
    refine KC.out.mono ?_
    rintro e w4 ⟨rfl, b4⟩
    have hR4 := HR3.out.below b4 (by omega)
    have q0 := hR4.c0
    have q1 := hR4.c1
    have y0 := hR4.f0
    have y1 := hR4.f1
    have hK := (hR4.set0 (.int .i64 Wa)).set1 (.slice (some ⟨G, 0, none⟩) na na)
    have g0 := hK.c0
    have g1 := hK.c1
    have HN := Lib.hid (Grid.set2 ((HG3.out.below b4 (.inr (Nat.le_refl _))).lt) hR4 (by decide) (by decide) (.int .i64 Wa) (.slice (some ⟨G, 0, none⟩) na na))
    have HX := Lib.hid ((HB3.out.trans (b4.mono HB3.out.size)).trans ((set2_mv w4 (w.heap.size + 1 + 1) (.int .i64 Wa) (.slice (some ⟨G, 0, none⟩) na na)).below (by omega) (by have := b4.size; omega)))
    clear hK hR4 b4 a0 a1 b0 b1 n0 n1
    go_wp2
    generalize (w4.setCell ⟨w.heap.size + 1 + 1, 0, none⟩ (.int .i64 Wa)).setCell ⟨w.heap.size + 1 + 1, 1, none⟩ (.slice (some ⟨G, 0, none⟩) na na) = W9 at *
    refine bodyPost_ret (by simp [results, Tryz.results8, go_sem, g0, g1]; rfl) rfl ?_
    rw [HE.out]
    exact ⟨_, rfl, ⟨_, rfl, hwa, _, _, _, _, rfl, HN.out.net.mono (by omega) (Nat.le_refl _)⟩, HX.out⟩
  · rw [hp] at hE
    have HE := Lib.hid hE
    obtain ⟨sa9, sb9, _⟩ := HA0.out _ hb3
    have hQ : Hid (∀ w' R, Below (w2.alloc (.cells #[.int .i64 Wa, .slice (some ⟨G, 0, none⟩) na na] 26)).heap.size (w2.alloc (.cells #[.int .i64 Wa, .slice (some ⟨G, 0, none⟩) na na] 26)) w' → (w2.alloc (.cells #[.int .i64 Wa, .slice (some ⟨G, 0, none⟩) na na] 26)).heap.size ≤ R → Blk w' R 26 (.int .i64 0) (.slice none 0 0) →
        Calls Tryz.prog 27 #[.pointer (some ⟨w2.heap.size, 0, none⟩), .pointer (some ⟨w.heap.size + 1, 0, none⟩)] w' fun e w5 => ∃ W ad n cap, e = .returned (.agg #[.int .i64 W, .slice ad n cap]) ∧ Blk w5 R 26 (.int .i64 0) (.slice none 0 0) ∧ SumQ Wa D.heap.size (spanL Wa ra rb) (w2.alloc (.cells #[.int .i64 Wa, .slice (some ⟨G, 0, none⟩) na na] 26)) W ad n cap ((w5.setCell ⟨R, 0, none⟩ (.int .i64 W)).setCell ⟨R, 1, none⟩ (.slice ad n cap))) := Lib.hid fun w' R hx hRs hRk => by
      have hzx := hx.size
      refine (sumC w' (l := D.heap.size) (hN.below hx (by omega)) hwa ((hG3.below hx (.inr (Nat.le_refl _))).lt) (by omega) (by omega) (fun g e => by obtain rfl := (Addr.mk.inj (Option.some.inj e)).1; omega) hfa (hB3.below hx (by omega)).c1 (HA0.out w' (hb3.trans (hx.mono (by omega)))).2.2 (by omega)).mono ?_
      rintro e w5 ⟨ad5, n5, cap5, us5, rfl, r5, t5⟩
      have hR5 := t5.blk hRk (by omega) fun g e => by obtain rfl := (Addr.mk.inj (Option.some.inj e)).1; omega
      have hbl : Below D.heap.size (w2.alloc (.cells #[.int .i64 Wa, .slice (some ⟨G, 0, none⟩) na na] 26)) w5 := (hx.mono (by omega)).trans (Two.below t5 (by omega) (by omega) fun g e => by obtain rfl := (Addr.mk.inj (Option.some.inj e)).1; omega)
      exact ⟨Wa, ad5, n5, cap5, rfl, hR5, rfl, ⟨us5, Grid.set2 r5 hR5 (by decide) (by decide) (.int .i64 Wa) (.slice ad5 n5 cap5)⟩, hbl.trans ((set2_mv w5 R (.int .i64 Wa) (.slice ad5 n5 cap5)).below (by omega) (by have := t5.size; omega))⟩
    have KC := Lib.hid (cmp_yes _ sa9 hfa sb9 hfb hp Wa (some ⟨G, 0, none⟩) na na 27 (by intro args w; go_simp) ⟨w2.heap.size, 0, none⟩ ⟨w.heap.size + 1, 0, none⟩ (SumQ Wa D.heap.size (spanL Wa ra rb) (w2.alloc (.cells #[.int .i64 Wa, .slice (some ⟨G, 0, none⟩) na na] 26))) hQ.out)
    have HR3 := Lib.hid hR3
    have HB3 := Lib.hid hb3
    clear hE hp sa9 sb9 hG3 hR3 hb3 HA0 hA3 hB3 hN hQ
    go_wp2_with fail
    go_at_call 26
    generalize w2.alloc (.cells #[.int .i64 Wa, .slice (some ⟨G, 0, none⟩) na na] 26) = D3 at *
    refine KC.out.mono ?_
    rintro e w4 ⟨W4, ad4, n4, cap4, rfl, e4, ⟨us4, r4⟩, b4⟩
    have e4 := e4.symm
    subst e4
    have hR4 := HR3.out.below b4 (by omega)
    have q0 := hR4.c0
    have q1 := hR4.c1
    have y0 := hR4.f0
    have y1 := hR4.f1
    have hK := (hR4.set0 (.int .i64 Wa)).set1 (.slice ad4 n4 cap4)
    have g0 := hK.c0
    have g1 := hK.c1
    have HN := Lib.hid (Grid.set2 r4 hR4 (by decide) (by decide) (.int .i64 Wa) (.slice ad4 n4 cap4))
    have HX := Lib.hid ((HB3.out.trans (b4.mono (by omega))).trans ((set2_mv w4 (w.heap.size + 1 + 1) (.int .i64 Wa) (.slice ad4 n4 cap4)).below (by omega) (by have := b4.size; omega)))
    clear hK hR4 b4 r4 a0 a1 b0 b1 n0 n1 KC
    go_wp2
    generalize (w4.setCell ⟨w.heap.size + 1 + 1, 0, none⟩ (.int .i64 Wa)).setCell ⟨w.heap.size + 1 + 1, 1, none⟩ (.slice ad4 n4 cap4) = W9 at *
    refine bodyPost_ret (by simp [results, Tryz.results8, go_sem, g0, g1]; rfl) rfl ?_
    rw [HE.out]
    exact ⟨_, rfl, ⟨_, rfl, hwa, _, _, _, _, rfl, HN.out.net.mono (by omega) (Nat.le_refl _)⟩, HX.out⟩
end Go.Proofs.YtefcfeikooknmaaGreat.SubI
namespace Go.Proofs.YtefcfeikooknmaaGreat.SubI
open Go.ChangeShapes Go.WideShapes Go.ChangeAt Go.RowKit
open Go.Proofs.YtefcfeikooknmaaGreat.Drawn Go.Proofs.YtefcfeikooknmaaGreat.Seq Go.Proofs.YtefcfeikooknmaaGreat.Help Go.Proofs.YtefcfeikooknmaaGreat.Field Go.Proofs.YtefcfeikooknmaaGreat.Vec Go.Proofs.YtefcfeikooknmaaGreat.Mat Go.Proofs.YtefcfeikooknmaaGreat.MatP Go.Proofs.YtefcfeikooknmaaGreat.Lin Go.Proofs.YtefcfeikooknmaaGreat.Rref Go.Proofs.YtefcfeikooknmaaGreat.SolP Go.Proofs.YtefcfeikooknmaaGreat.Shape Go.Proofs.YtefcfeikooknmaaGreat.Bas Go.Proofs.YtefcfeikooknmaaGreat.BasW Go.Proofs.YtefcfeikooknmaaGreat.BasI Go.Proofs.YtefcfeikooknmaaGreat.SubW

theorem innov_eq (a b : Bs) : dimOf (sumOf a b).1 (sumOf a b).2 - dimOf a.1 a.2 = innovOf a b := by
  unfold innovOf
  cases h : pair a b
  · have : sumOf a b = a := by unfold sumOf; rw [h]; rfl
    rw [this, cond_false]; omega
  · rw [cond_true]
theorem sub_innov {a b : Bs} (h : pair a b = true) : subOf a b = (innovOf b a == 0) := by
  obtain ⟨Wa, ra⟩ := a
  obtain ⟨Wb, rb⟩ := b
  obtain ⟨h1, h2, h3⟩ := pair_yes h
  obtain rfl : Wa = Wb := h3
  obtain ⟨w1, n1, R1, p1, f1⟩ := bas_form h1
  obtain ⟨w2, n2, R2, p2, f2⟩ := bas_form h2
  have e1 := f1.width
  have e2 := f2.width
  dsimp only at e1 e2
  obtain rfl : w1 = w2 := by omega
  have := (sub_law f1 f2).2.2.2.2.2.2.2
  rw [Bool.eq_iff_iff, beq_iff_eq]
  exact this
theorem sub_none {a b : Bs} (h : pair a b = false) : subOf a b = false := by unfold subOf; rw [h]; rfl
set_option maxRecDepth 100000 in
set_option maxHeartbeats 1600000 in
theorem innov : InnovOp := fun w l h l2 h2 va vb a b sa hfa sb hfb => by
  have HE := Lib.hid (innov_eq a b)
  have hd1 := dim_in (W := a.1) hfa
  have hd2 := dim_in (W := (sumOf a b).1) (fit_sum (b2 := b) hfa)
  have hw1 : IntKind.i64.wrap (dimOf (sumOf a b).1 (sumOf a b).2 - dimOf a.1 a.2) = dimOf (sumOf a b).1 (sumOf a b).2 - dimOf a.1 a.2 := by rw [IntKind.wrap_i64]; omega
  have hfs : BasisF (sumOf a b) := fit_sum hfa
  have HA0 := Lib.hid (fun w' (hx : Below w.heap.size w w') => And.intro (BasisI_below sa hx (.inr (Nat.le_refl _))) (BasisI_below sb hx (.inr (Nat.le_refl _))))
  rw [← HE.out]
  have KD := Lib.hid (fun (w' : World) (l h : Nat) (v : Value) (s : BasisI w' l h v (sumOf a b)) => dim w' s hfs)
  have KE := Lib.hid (fun (w' : World) (hx : Below w.heap.size w w') => dim w' (HA0.out w' hx).1 hfa)
  have KS := Lib.hid (fun (w' : World) (hx : Below w.heap.size w w') => sum w' (HA0.out w' hx).1 hfa (HA0.out w' hx).2 hfb)
  generalize dimOf (sumOf a b).1 (sumOf a b).2 = d1 at *
  generalize dimOf a.1 a.2 = d2 at *
  generalize sumOf a b = c at *
  clear HE HA0
  obtain ⟨Wa, ra⟩ := a
  obtain ⟨Wb, rb⟩ := b
  obtain ⟨ua, rfl, hwa, ada, na, capa, rfl, sa⟩ := sa
  obtain ⟨ub, rfl, hwb, adb, nb, capb, rfl, sb⟩ := sb
  have hA := (Blk.new w (.int .i64 Wa) (.slice ada na capa) 26).alloc (.cells #[.int .i64 Wb, .slice adb nb capb] 26)
  have hB := Blk.new (w.alloc (.cells #[.int .i64 Wa, .slice ada na capa] 26)) (.int .i64 Wb) (.slice adb nb capb) 26
  have hb : Below w.heap.size w ((w.alloc (.cells #[.int .i64 Wa, .slice ada na capa] 26)).alloc (.cells #[.int .i64 Wb, .slice adb nb capb] 26)) := (below_box w _).alloc (by simp) _
  have hz : ((w.alloc (.cells #[.int .i64 Wa, .slice ada na capa] 26)).alloc (.cells #[.int .i64 Wb, .slice adb nb capb] 26)).heap.size = w.heap.size + 1 + 1 := by simp
  rw [World.size_alloc] at hB
  clear sa sb
  go_enter Tryz.func13, Tryz.ntmps13
  go_wp2
  generalize (w.alloc (.cells #[.int .i64 Wa, .slice ada na capa] 26)).alloc (.cells #[.int .i64 Wb, .slice adb nb capb] 26) = D at *
  have hA1 := hA.drewN 1
  have hB1 := hB.drewN 1
  have e0 : D.drew.cell? ⟨w.heap.size, 0, none⟩ = some (.int .i64 Wa) := hA1.c0
  have e1 : D.drew.cell? ⟨w.heap.size, 1, none⟩ = some (.slice ada na capa) := hA1.c1
  have e2 : D.drew.cell? ⟨w.heap.size + 1, 0, none⟩ = some (.int .i64 Wb) := hB1.c0
  have e3 : D.drew.cell? ⟨w.heap.size + 1, 1, none⟩ = some (.slice adb nb capb) := hB1.c1
  have hbD : Below w.heap.size w D.drew := hb.drew
  have hzD : D.drew.heap.size = w.heap.size + 1 + 1 := hz
  clear hA hB hA1 hB1 hb hz
  refine wp_region_held (S := fun w' => w'.cell? ⟨w.heap.size, 0, none⟩ = some (.int .i64 Wa) ∧ w'.cell? ⟨w.heap.size, 1, none⟩ = some (.slice ada na capa) ∧ w'.cell? ⟨w.heap.size + 1, 0, none⟩ = some (.int .i64 Wb) ∧ w'.cell? ⟨w.heap.size + 1, 1, none⟩ = some (.slice adb nb capb)) (by kernel_rfl) ?_
  change wpAnyH _ _ _ _ _ _ _ _ D.drew
  generalize D.drew = D1 at *
  have HH := Lib.hid (And.intro e0 (And.intro e1 (And.intro e2 e3)))
  refine wpAnyH_take (i := 0) (oi := ⟨some 5, _, _, _, _, _⟩) (v := ?_) rfl (by kernel_rfl) (by kernel_rfl) (by kernel_rfl) (fun _ _ _ h => h) (Or.inl ⟨by rfl, ?_⟩) HH.out ?_
  rotate_left
  · intro wS hSw
    try dsimp only at hSw
    go_simp
    all_goals (with_reducible rfl)
  simp only [Act.put, List.setIfInBounds_toArray, List.set_cons_zero, List.set_cons_succ]
  refine wpAnyH_take (i := 1) (oi := ⟨some 6, _, _, _, _, _⟩) (v := ?_) rfl (by kernel_rfl) (by kernel_rfl) (by kernel_rfl) (fun _ _ _ h => h) (Or.inl ⟨by rfl, ?_⟩) HH.out ?_
  rotate_left
  · intro wS hSw
    try dsimp only at hSw
    go_simp
    all_goals (with_reducible rfl)
  simp only [Act.put, List.setIfInBounds_toArray, List.set_cons_zero, List.set_cons_succ]
  refine wpAnyH_take (i := 4) (oi := ⟨some 9, _, _, _, _, _⟩) (v := ?_) rfl (by kernel_rfl) (by kernel_rfl) (by kernel_rfl) (fun _ _ _ h => h) (Or.inl ⟨by rfl, ?_⟩) HH.out ?_
  rotate_left
  · intro wS hSw
    try dsimp only at hSw
    go_simp
    all_goals (with_reducible rfl)
  simp only [Act.put, List.setIfInBounds_toArray, List.set_cons_zero, List.set_cons_succ]
  refine wpAnyH_ready (rs := [2]) (by kernel_rfl) (by simp) ?_
  refine AllReadyH.cons (o := ⟨some 7, _, _, _, _, _⟩) rfl (fun Kq hKq => ?_) AllReadyH.nil
  go_simp
  refine (KS.out _ hbD).mono ?_
  rintro e w6 ⟨u6, rfl, s6, b6⟩
  have d0 := (b6.cell (World.block_lt_of_cell? _ _ e0)).trans e0
  have d1 := (b6.cell (World.block_lt_of_cell? _ _ e1)).trans e1
  have d2 := (b6.cell (World.block_lt_of_cell? _ _ e2)).trans e2
  have d3 := (b6.cell (World.block_lt_of_cell? _ _ e3)).trans e3
  have HH6 := Lib.hid (And.intro d0 (And.intro d1 (And.intro d2 (d3))))
  have HS6 := Lib.hid (BasisO_is s6)
  have HB6 := Lib.hid (hbD.trans (b6.mono (by omega)))
  clear s6 b6 KS
  refine hKq.out _ _ HH6.out (fun _ => ?_)
  clear hKq Kq
  try simp only [Act.put, List.setIfInBounds_toArray, List.set_cons_zero, List.set_cons_succ]
  refine wpAnyH_ready (rs := [3]) (by kernel_rfl) (by simp) ?_
  refine AllReadyH.cons (o := ⟨some 8, _, _, _, _, _⟩) rfl (fun Kq hKq => ?_) AllReadyH.nil
  go_simp
  refine (KD.out _ _ _ _ HS6.out).mono ?_
  rintro e w7 ⟨rfl, b7⟩
  have f0 := (b7.cell (World.block_lt_of_cell? _ _ d0)).trans d0
  have f1 := (b7.cell (World.block_lt_of_cell? _ _ d1)).trans d1
  have f2 := (b7.cell (World.block_lt_of_cell? _ _ d2)).trans d2
  have f3 := (b7.cell (World.block_lt_of_cell? _ _ d3)).trans d3
  have HH7 := Lib.hid (And.intro f0 (And.intro f1 (And.intro f2 (f3))))
  have HB7 := Lib.hid (HB6.out.trans (b7.mono HB6.out.size))
  clear b7 KD HS6
  refine hKq.out _ _ HH7.out (fun _ => ?_)
  clear hKq Kq
  try simp only [Act.put, List.setIfInBounds_toArray, List.set_cons_zero, List.set_cons_succ]
  refine wpAnyH_ready (rs := [5]) (by kernel_rfl) (by simp) ?_
  refine AllReadyH.cons (o := ⟨some 10, _, _, _, _, _⟩) rfl (fun Kq hKq => ?_) AllReadyH.nil
  go_simp
  refine (KE.out _ HB7.out).mono ?_
  rintro e w8 ⟨rfl, b8⟩
  have g0 := (b8.cell (World.block_lt_of_cell? _ _ f0)).trans f0
  have g1 := (b8.cell (World.block_lt_of_cell? _ _ f1)).trans f1
  have g2 := (b8.cell (World.block_lt_of_cell? _ _ f2)).trans f2
  have g3 := (b8.cell (World.block_lt_of_cell? _ _ f3)).trans f3
  have HH8 := Lib.hid (And.intro g0 (And.intro g1 (And.intro g2 (g3))))
  have HB8 := Lib.hid (HB7.out.trans (b8.mono HB7.out.size))
  clear b8 KE
  refine hKq.out _ _ HH8.out (fun _ => ?_)
  clear hKq Kq
  try simp only [Act.put, List.setIfInBounds_toArray, List.set_cons_zero, List.set_cons_succ]
  refine wpAnyH_take (i := 6) (oi := ⟨some 11, _, _, _, _, _⟩) (v := ?_) rfl (by kernel_rfl) (by kernel_rfl) (by kernel_rfl) (fun _ _ _ h => h) (Or.inl ⟨by rfl, ?_⟩) HH8.out ?_
  rotate_left
  · intro wS hSw
    try dsimp only at hSw
    go_simp
    all_goals (with_reducible rfl)
  simp only [Act.put, List.setIfInBounds_toArray, List.set_cons_zero, List.set_cons_succ]
  refine wpAnyH_take (i := 7) (oi := ⟨some 4, _, _, _, _, _⟩) (v := ?_) rfl (by kernel_rfl) (by kernel_rfl) (by kernel_rfl) (fun _ _ _ h => h) (Or.inl ⟨by rfl, ?_⟩) HH8.out ?_
  rotate_left
  · intro wS hSw
    try dsimp only at hSw
    go_simp
    all_goals (with_reducible rfl)
  simp only [Act.put, List.setIfInBounds_toArray, List.set_cons_zero, List.set_cons_succ]
  refine wpAnyH_done (by kernel_rfl) ?_ _
  go_wp2
  go_ret
  exact ⟨rfl, HB8.out⟩
set_option maxRecDepth 100000 in
theorem subC (w : World) {l h l2 h2 A B : Nat} {ada adb : Option Addr} {na nb capa capb : Nat} {a b : Bs} (hA : Blk w A 26 (.int .i64 a.1) (.slice ada na capa)) (hB : Blk w B 26 (.int .i64 b.1) (.slice adb nb capb))
    (sa : BasisI w l h (.agg #[.int .i64 a.1, .slice ada na capa]) a) (hfa : BasisF a) (sb : BasisI w l2 h2 (.agg #[.int .i64 b.1, .slice adb nb capb]) b) (hfb : BasisF b) :
    Calls Tryz.prog 33 #[.pointer (some ⟨B, 0, none⟩), .pointer (some ⟨A, 0, none⟩)] w (Says (.bool (innovOf b a == 0)) w) := by
  have K := Lib.hid (innov w sb hfb sa hfa)
  have a0 := hA.c0
  have a1 := hA.c1
  have b0 := hB.c0
  have b1 := hB.c1
  generalize innovOf b a = x at *
  clear sa sb hA hB
  go_enter Tryz.func33, Tryz.ntmps33
  go_wp2_with fail
  go_at_call 13
  refine K.out.mono ?_
  rintro e w2 ⟨rfl, b2⟩
  go_wp2
  go_ret
  exact ⟨rfl, b2⟩
set_option maxRecDepth 100000 in
theorem sub : SubOp := fun w l h l2 h2 va vb a b sa hfa sb hfb => by
  have sa0 := sa
  have sb0 := sb
  obtain ⟨Wa, ra⟩ := a
  obtain ⟨Wb, rb⟩ := b
  obtain ⟨ua, rfl, hwa, ada, na, capa, rfl, sa⟩ := sa
  obtain ⟨ub, rfl, hwb, adb, nb, capb, rfl, sb⟩ := sb
  have hA := (Blk.new w (.int .i64 Wa) (.slice ada na capa) 26).alloc (.cells #[.int .i64 Wb, .slice adb nb capb] 26)
  have hB := Blk.new (w.alloc (.cells #[.int .i64 Wa, .slice ada na capa] 26)) (.int .i64 Wb) (.slice adb nb capb) 26
  have hb : Below w.heap.size w ((w.alloc (.cells #[.int .i64 Wa, .slice ada na capa] 26)).alloc (.cells #[.int .i64 Wb, .slice adb nb capb] 26)) := (below_box w _).alloc (by simp) _
  have hz : ((w.alloc (.cells #[.int .i64 Wa, .slice ada na capa] 26)).alloc (.cells #[.int .i64 Wb, .slice adb nb capb] 26)).heap.size = w.heap.size + 1 + 1 := by simp
  rw [World.size_alloc] at hB
  have sa1 := BasisI_below sa0 hb (.inr (Nat.le_refl _))
  have sb1 := BasisI_below sb0 hb (.inr (Nat.le_refl _))
  have KC : Hid (Calls Tryz.prog 32 #[.agg #[.int .i64 Wa, .slice ada na capa], .agg #[.int .i64 Wb, .slice adb nb capb], .bool false, .func (.func 33) #[] #[.pointer (some ⟨w.heap.size + 1, 0, none⟩), .pointer (some ⟨w.heap.size, 0, none⟩)]] ((w.alloc (.cells #[.int .i64 Wa, .slice ada na capa] 26)).alloc (.cells #[.int .i64 Wb, .slice adb nb capb] 26)) (Says (.bool (subOf (Wa, ra) (Wb, rb))) ((w.alloc (.cells #[.int .i64 Wa, .slice ada na capa] 26)).alloc (.cells #[.int .i64 Wb, .slice adb nb capb] 26)))) := by
    refine Lib.hid ?_
    cases hp : pair (Wa, ra) (Wb, rb)
    · rw [sub_none hp]
      exact cmpT_no _ sa1 hfa sb1 hfb hp false _ _ _
    · rw [sub_innov hp]
      exact cmpT_yes _ sa1 hfa sb1 hfb hp false _ (by intro args w; go_simp) _ _ _ fun w' hx => subC w' (a := (Wa, ra)) (b := (Wb, rb)) (hA.below hx (by omega)) (hB.below hx (by omega)) (BasisI_below sa1 hx (.inr (Nat.le_refl _))) hfa (BasisI_below sb1 hx (.inr (Nat.le_refl _))) hfb
  generalize subOf (Wa, ra) (Wb, rb) = r at *
  have a0 := hA.c0
  have a1 := hA.c1
  have b0 := hB.c0
  have b1 := hB.c1
  have HB := Lib.hid hb
  clear sa sb sa0 sb0 sa1 sb1 hA hB hb
  go_enter Tryz.func11, Tryz.ntmps11
  go_wp2_with fail
  go_at_call 32
  refine KC.out.mono ?_
  rintro e w2 ⟨rfl, b2⟩
  have HX := Lib.hid (HB.out.trans (b2.mono (by omega)))
  clear b2
  go_wp2
  go_ret
  exact ⟨rfl, HX.out⟩
theorem new_zero : (newB 0).1 = 0 := by unfold newB; cases inW 0 <;> rfl
set_option maxRecDepth 100000 in
set_option maxHeartbeats 1600000 in
theorem orth : OrthOp := fun w l h v b s hf => by
  obtain ⟨W, rows⟩ := b
  have hE : orthOf (W, rows) = bif isBas W rows then spanOf (bif decide (rows.length = 0) then Mat.identity W else nullOf rows) W else (0, []) := rfl
  obtain ⟨u, rfl, hw, ad, n, cap, rfl, s⟩ := s
  have hw : -9223372036854775808 ≤ W ∧ W ≤ 9223372036854775807 := hw
  have hbig := s.big
  have hcap := s.le
  unfold maxLen at hbig
  have hlen : rows.length = n := s.len
  have hn0 : n ≤ 1048576 := by have := hf.len; dsimp only at this; omega
  have hA := (Blk.new w (.int .i64 W) (.slice ad n cap) 26).alloc (.cells #[.int .i64 0, .slice none 0 0] 26)
  have hR := Blk.new (w.alloc (.cells #[.int .i64 W, .slice ad n cap] 26)) (.int .i64 0) (.slice none 0 0) 26
  have hb : Below w.heap.size w ((w.alloc (.cells #[.int .i64 W, .slice ad n cap] 26)).alloc (.cells #[.int .i64 0, .slice none 0 0] 26)) := (below_box w _).alloc (by simp) _
  have hz : ((w.alloc (.cells #[.int .i64 W, .slice ad n cap] 26)).alloc (.cells #[.int .i64 0, .slice none 0 0] 26)).heap.size = w.heap.size + 1 + 1 := by simp
  rw [World.size_alloc] at hR
  have KV := validP ((w.alloc (.cells #[.int .i64 W, .slice ad n cap] 26)).alloc (.cells #[.int .i64 0, .slice none 0 0] 26)) hA.c0 hA.c1 hw (s.below hb (.inr (Nat.le_refl _))) hf
  have HS := Lib.hid (fun w' (hx : Below w.heap.size w w') => s.below hx (.inr (Nat.le_refl _)))
  clear s
  cases hp : isBas W rows
  · rw [hp] at hE KV
    have HE := Lib.hid hE
    have KV := Lib.hid KV
    have HA := Lib.hid hA
    have HR := Lib.hid hR
    have HB := Lib.hid hb
    clear hE hp hA hR hb HS
    go_enter Tryz.func17, Tryz.ntmps17
    go_wp2_with fail
    go_at_call 31
    generalize (w.alloc (.cells #[.int .i64 W, .slice ad n cap] 26)).alloc (.cells #[.int .i64 0, .slice none 0 0] 26) = D at *
    refine KV.out.mono ?_
    rintro e w1 ⟨rfl, b1⟩
    have z1 := b1.size
    have HR1 := Lib.hid (HR.out.below b1 (by omega))
    have HB1 := Lib.hid (HB.out.trans (b1.mono (by omega)))
    have KN := newP w1 0 (by omega) (by omega)
    rw [new_zero] at KN
    have KN := Lib.hid KN
    clear b1 HR HB KV
    go_wp2_with fail
    go_at_call 29
    refine KN.out.mono ?_
    rintro e w4 ⟨rfl, b4⟩
    have hR4 := HR1.out.below b4 (by omega)
    have q0 := hR4.c0
    have q1 := hR4.c1
    have y0 := hR4.f0
    have y1 := hR4.f1
    have hK := (hR4.set0 (.int .i64 0)).set1 (.slice none 0 0)
    have g0 := hK.c0
    have g1 := hK.c1
    have HX := Lib.hid ((HB1.out.trans (b4.mono HB1.out.size)).trans ((set2_mv w4 (w.heap.size + 1) (.int .i64 0) (.slice none 0 0)).below (by omega) (by have := b4.size; omega)))
    clear hK hR4 b4 KN
    go_wp2
    generalize (w4.setCell ⟨w.heap.size + 1, 0, none⟩ (.int .i64 0)).setCell ⟨w.heap.size + 1, 1, none⟩ (.slice none 0 0) = W9 at *
    refine bodyPost_ret (by simp [results, Tryz.results17, go_sem, g0, g1]; rfl) rfl ?_
    rw [HE.out]
    exact ⟨_, rfl, ⟨_, rfl, ⟨by show (-9223372036854775808 : Int) ≤ 0; omega, by show (0 : Int) ≤ 9223372036854775807; omega⟩, _, _, _, _, rfl, Net.nil _ _ _ _ _ _ (Nat.zero_le _) (fun _ => rfl)⟩, HX.out⟩
  · rw [hp] at hE KV
    have hE : orthOf (W, rows) = spanOf (bif decide (rows.length = 0) then Mat.identity W else nullOf rows) W := hE
    rw [hlen] at hE
    have KV := Lib.hid KV
    have HA := Lib.hid hA
    have HR := Lib.hid hR
    have HB := Lib.hid hb
    have hsh : MatOps.Short rows := fun xs hx => by have := hf.rows xs hx; omega
    clear hp hA hR hb hlen
    by_cases hn : n = 0
    · subst hn
      have hE : orthOf (W, rows) = spanOf (Mat.identity W) W := hE
      have HE := Lib.hid hE
      clear hE
      go_enter Tryz.func17, Tryz.ntmps17
      go_wp2_with fail
      go_at_call 31
      generalize (w.alloc (.cells #[.int .i64 W, .slice ad 0 cap] 26)).alloc (.cells #[.int .i64 0, .slice none 0 0] 26) = D at *
      refine KV.out.mono ?_
      rintro e w1 ⟨rfl, b1⟩
      have z1 := b1.size
      have hA1 := HA.out.below b1 (by omega)
      have HR1 := Lib.hid (HR.out.below b1 (by omega))
      have HB1 := Lib.hid (HB.out.trans (b1.mono (by omega)))
      have a0 := hA1.c0
      have a1 := hA1.c1
      have HA1 := Lib.hid hA1
      have KN := Lib.hid (ElimI.null w1 (HS.out w1 HB1.out) (by omega) hsh)
      clear b1 HR HA HB KV hA1
      go_wp2_with fail
      go_at_call 42
      refine KN.out.mono ?_
      rintro e w2 ⟨adv, nv, capv, usv, rfl, rv, b2⟩
      have z2 := b2.size
      have hA2 := HA1.out.below b2 (by omega)
      have HR2 := Lib.hid (HR1.out.below b2 (by omega))
      have HB2 := Lib.hid (HB1.out.trans (b2.mono (by omega)))
      clear b2 HR1 HB1 KN a0 a1 HA1 rv
      have a0 := hA2.c0
      have a1 := hA2.c1
      have HA2 := Lib.hid hA2
      have KI := Lib.hid (MatI.identity w2 W hw.1 hw.2)
      clear hA2
      go_wp2_with fail
      go_at_call 43
      refine KI.out.mono ?_
      rintro e w3 ⟨adv, nv, capv, usv, rfl, rv, b3⟩
      have z3 := b3.size
      have hA3 := HA2.out.below b3 (by omega)
      have HR3 := Lib.hid (HR2.out.below b3 (by omega))
      have HB3 := Lib.hid (HB2.out.trans (b3.mono (by omega)))
      have KS := Lib.hid (spanG w3 rv.sls W hw.1 hw.2)
      clear b3 HR2 HB2 KI a0 a1 HA2 rv
      have a0 := hA3.c0
      have a1 := hA3.c1
      clear hA3
      go_wp2_with fail
      go_at_call 44
      refine KS.out.mono ?_
      rintro e w4 ⟨u4, rfl, ⟨u5, rfl, hw4, ad4, n4, cap4, us4, rfl, r4⟩, b4⟩
      generalize hW4 : (spanOf (Mat.identity W) W).1 = W4 at *
      have HW4 := Lib.hid hW4
      clear hW4
      have hR4 := HR3.out.below b4 (by omega)
      have q0 := hR4.c0
      have q1 := hR4.c1
      have y0 := hR4.f0
      have y1 := hR4.f1
      have hK := (hR4.set0 (.int .i64 W4)).set1 (.slice ad4 n4 cap4)
      have g0 := hK.c0
      have g1 := hK.c1
      have HM := Lib.hid (set2_mv w4 (w.heap.size + 1) (.int .i64 W4) (.slice ad4 n4 cap4))
      have HX := Lib.hid (HB3.out.trans (b4.mono HB3.out.size))
      have HN := Lib.hid r4
      clear hK hR4 b4 KS r4 a0 a1
      go_wp2
      generalize (w4.setCell ⟨w.heap.size + 1, 0, none⟩ (.int .i64 W4)).setCell ⟨w.heap.size + 1, 1, none⟩ (.slice ad4 n4 cap4) = W9 at *
      refine bodyPost_ret (by simp [results, Tryz.results17, go_sem, g0, g1]; rfl) rfl ?_
      rw [HE.out]
      have hm := HM.out
      exact ⟨_, rfl, ⟨_, by rw [HW4.out], by rw [HW4.out]; exact hw4, _, _, _, _, rfl, (HN.out.mv hm (.inr (by omega))).mono (by omega) hm.size⟩, HX.out.trans (hm.below (by omega) HX.out.size)⟩
    · have hnn : ((n : Int) == 0) = false := by simp; omega
      rw [decide_eq_false hn] at hE
      have hE : orthOf (W, rows) = spanOf (nullOf rows) W := hE
      have HE := Lib.hid hE
      clear hE hn
      go_enter Tryz.func17, Tryz.ntmps17
      go_wp2_with fail
      go_at_call 31
      generalize (w.alloc (.cells #[.int .i64 W, .slice ad n cap] 26)).alloc (.cells #[.int .i64 0, .slice none 0 0] 26) = D at *
      refine KV.out.mono ?_
      rintro e w1 ⟨rfl, b1⟩
      have z1 := b1.size
      have hA1 := HA.out.below b1 (by omega)
      have HR1 := Lib.hid (HR.out.below b1 (by omega))
      have HB1 := Lib.hid (HB.out.trans (b1.mono (by omega)))
      have a0 := hA1.c0
      have a1 := hA1.c1
      have HA1 := Lib.hid hA1
      have KN := Lib.hid (ElimI.null w1 (HS.out w1 HB1.out) (by omega) hsh)
      clear b1 HR HA HB KV hA1
      go_wp2_with fail
      go_at_call 42
      refine KN.out.mono ?_
      rintro e w2 ⟨adv, nv, capv, usv, rfl, rv, b2⟩
      have z2 := b2.size
      have hA2 := HA1.out.below b2 (by omega)
      have HR2 := Lib.hid (HR1.out.below b2 (by omega))
      have HB2 := Lib.hid (HB1.out.trans (b2.mono (by omega)))
      have KS := Lib.hid (spanG w2 rv.sls W hw.1 hw.2)
      clear b2 HR1 HB1 KN a0 a1 HA1 rv
      have a0 := hA2.c0
      have a1 := hA2.c1
      clear hA2
      go_wp2_with fail
      go_at_call 44
      refine KS.out.mono ?_
      rintro e w4 ⟨u4, rfl, ⟨u5, rfl, hw4, ad4, n4, cap4, us4, rfl, r4⟩, b4⟩
      generalize hW4 : (spanOf (nullOf rows) W).1 = W4 at *
      have HW4 := Lib.hid hW4
      clear hW4
      have hR4 := HR2.out.below b4 (by omega)
      have q0 := hR4.c0
      have q1 := hR4.c1
      have y0 := hR4.f0
      have y1 := hR4.f1
      have hK := (hR4.set0 (.int .i64 W4)).set1 (.slice ad4 n4 cap4)
      have g0 := hK.c0
      have g1 := hK.c1
      have HM := Lib.hid (set2_mv w4 (w.heap.size + 1) (.int .i64 W4) (.slice ad4 n4 cap4))
      have HX := Lib.hid (HB2.out.trans (b4.mono HB2.out.size))
      have HN := Lib.hid r4
      clear hK hR4 b4 KS r4 a0 a1
      go_wp2
      generalize (w4.setCell ⟨w.heap.size + 1, 0, none⟩ (.int .i64 W4)).setCell ⟨w.heap.size + 1, 1, none⟩ (.slice ad4 n4 cap4) = W9 at *
      refine bodyPost_ret (by simp [results, Tryz.results17, go_sem, g0, g1]; rfl) rfl ?_
      rw [HE.out]
      have hm := HM.out
      exact ⟨_, rfl, ⟨_, by rw [HW4.out], by rw [HW4.out]; exact hw4, _, _, _, _, rfl, (HN.out.mv hm (.inr (by omega))).mono (by omega) hm.size⟩, HX.out.trans (hm.below (by omega) HX.out.size)⟩
end Go.Proofs.YtefcfeikooknmaaGreat.SubI
namespace Go.Proofs.YtefcfeikooknmaaGreat.SubI
open Go.ChangeShapes Go.WideShapes Go.ChangeAt Go.RowKit
open Go.Proofs.YtefcfeikooknmaaGreat.Drawn Go.Proofs.YtefcfeikooknmaaGreat.Seq Go.Proofs.YtefcfeikooknmaaGreat.Help Go.Proofs.YtefcfeikooknmaaGreat.Field Go.Proofs.YtefcfeikooknmaaGreat.Vec Go.Proofs.YtefcfeikooknmaaGreat.Mat Go.Proofs.YtefcfeikooknmaaGreat.MatP Go.Proofs.YtefcfeikooknmaaGreat.Lin Go.Proofs.YtefcfeikooknmaaGreat.Rref Go.Proofs.YtefcfeikooknmaaGreat.SolP Go.Proofs.YtefcfeikooknmaaGreat.Shape Go.Proofs.YtefcfeikooknmaaGreat.Bas Go.Proofs.YtefcfeikooknmaaGreat.BasW Go.Proofs.YtefcfeikooknmaaGreat.BasI Go.Proofs.YtefcfeikooknmaaGreat.SubW
/-- What a closure leaves that answers in new memory. -/
def NewQ (b : Bs) (w0 : World) (W : Int) (ad : Option Addr) (n cap : Nat) (w9 : World) : Prop := W = b.1 ∧ (-9223372036854775808 ≤ W ∧ W ≤ 9223372036854775807) ∧ (∃ us, Net w9 w0.heap.size w9.heap.size 3 ad n cap us b.2) ∧ Below w0.heap.size w0 w9
set_option maxRecDepth 100000 in
set_option maxHeartbeats 1600000 in
theorem interC (w : World) {l h l2 h2 A B : Nat} {ada adb : Option Addr} {na nb capa capb : Nat} {a b : Bs} (hA : Blk w A 26 (.int .i64 a.1) (.slice ada na capa)) (hB : Blk w B 26 (.int .i64 b.1) (.slice adb nb capb))
    (sa : BasisI w l h (.agg #[.int .i64 a.1, .slice ada na capa]) a) (hfa : BasisF a) (sb : BasisI w l2 h2 (.agg #[.int .i64 b.1, .slice adb nb capb]) b) (hfb : BasisF b) :
    Calls Tryz.prog 30 #[.pointer (some ⟨A, 0, none⟩), .pointer (some ⟨B, 0, none⟩)] w fun e w' => ∃ W ad n cap, e = .returned (.agg #[.int .i64 W, .slice ad n cap]) ∧ NewQ (orthOf (sumOf (orthOf a) (orthOf b))) w W ad n cap w' := by
  have hAl := hA.lt
  have hBl := hB.lt
  have hR := Blk.new w (.int .i64 0) (.slice none 0 0) 26
  have hb := below_box w (.cells #[.int .i64 0, .slice none 0 0] 26)
  have hz : (w.alloc (.cells #[.int .i64 0, .slice none 0 0] 26)).heap.size = w.heap.size + 1 := by simp
  have hA1 := hA.alloc (.cells #[.int .i64 0, .slice none 0 0] 26)
  have hB1 := hB.alloc (.cells #[.int .i64 0, .slice none 0 0] 26)
  have KA := Lib.hid (fun w' (hx : Below w.heap.size w w') => orth w' (BasisI_below sa hx (.inr (Nat.le_refl _))) hfa)
  have KB := Lib.hid (fun w' (hx : Below w.heap.size w w') => orth w' (BasisI_below sb hx (.inr (Nat.le_refl _))) hfb)
  have hsa := small_orth a
  have hsb := small_orth b
  have KS := Lib.hid (fun (w' : World) (l h l2 h2 : Nat) (v v2 : Value) (s : BasisI w' l h v (orthOf a)) (s2 : BasisI w' l2 h2 v2 (orthOf b)) => sum w' s hsa s2 hsb)
  have KO := Lib.hid (fun (w' : World) (l h : Nat) (v : Value) (s : BasisI w' l h v (sumOf (orthOf a) (orthOf b))) => orth w' s (fit_sum hsa))
  obtain ⟨Wa, ra⟩ := a
  obtain ⟨Wb, rb⟩ := b
  generalize hr9 : orthOf (sumOf (orthOf (Wa, ra)) (orthOf (Wb, rb))) = r9 at *
  generalize sumOf (orthOf (Wa, ra)) (orthOf (Wb, rb)) = r8 at *
  generalize orthOf (Wa, ra) = r6 at *
  generalize orthOf (Wb, rb) = r7 at *
  have HR9 := Lib.hid hr9
  clear sa sb hA hB hsa hsb hr9
  go_enter Tryz.func30, Tryz.ntmps30
  go_wp2
  generalize w.alloc (.cells #[.int .i64 0, .slice none 0 0] 26) = D at *
  have hA2 := hA1.drewN 1
  have hB2 := hB1.drewN 1
  have hR2 := hR.drewN 1
  have e0 : D.drew.cell? ⟨A, 0, none⟩ = some (.int .i64 Wa) := hA2.c0
  have e1 : D.drew.cell? ⟨A, 1, none⟩ = some (.slice ada na capa) := hA2.c1
  have e2 : D.drew.cell? ⟨B, 0, none⟩ = some (.int .i64 Wb) := hB2.c0
  have e3 : D.drew.cell? ⟨B, 1, none⟩ = some (.slice adb nb capb) := hB2.c1
  have hR2 : Blk D.drew w.heap.size 26 (.int .i64 0) (.slice none 0 0) := hR2
  have hbD : Below w.heap.size w D.drew := hb.drew
  have hzD : D.drew.heap.size = w.heap.size + 1 := hz
  clear hA1 hB1 hA2 hB2 hb hz hR
  refine wp_region_held (S := fun w' => w'.cell? ⟨A, 0, none⟩ = some (.int .i64 Wa) ∧ w'.cell? ⟨A, 1, none⟩ = some (.slice ada na capa) ∧ w'.cell? ⟨B, 0, none⟩ = some (.int .i64 Wb) ∧ w'.cell? ⟨B, 1, none⟩ = some (.slice adb nb capb)) (by kernel_rfl) ?_
  change wpAnyH _ _ _ _ _ _ _ _ D.drew
  generalize D.drew = D1 at *
  have HH := Lib.hid (And.intro e0 (And.intro e1 (And.intro e2 e3)))
  refine wpAnyH_take (i := 0) (oi := ⟨some 3, _, _, _, _, _⟩) (v := ?_) rfl (by kernel_rfl) (by kernel_rfl) (by kernel_rfl) (fun _ _ _ h => h) (Or.inl ⟨by rfl, ?_⟩) HH.out ?_
  rotate_left
  · intro wS hSw
    try dsimp only at hSw
    go_simp
    all_goals (with_reducible rfl)
  simp only [Act.put, List.setIfInBounds_toArray, List.set_cons_zero, List.set_cons_succ]
  refine wpAnyH_take (i := 2) (oi := ⟨some 5, _, _, _, _, _⟩) (v := ?_) rfl (by kernel_rfl) (by kernel_rfl) (by kernel_rfl) (fun _ _ _ h => h) (Or.inl ⟨by rfl, ?_⟩) HH.out ?_
  rotate_left
  · intro wS hSw
    try dsimp only at hSw
    go_simp
    all_goals (with_reducible rfl)
  simp only [Act.put, List.setIfInBounds_toArray, List.set_cons_zero, List.set_cons_succ]
  refine wpAnyH_ready (rs := [1]) (by kernel_rfl) (by simp) ?_
  refine AllReadyH.cons (o := ⟨some 4, _, _, _, _, _⟩) rfl (fun Kq hKq => ?_) AllReadyH.nil
  go_simp
  refine (KA.out _ hbD).mono ?_
  rintro e w6 ⟨u6, rfl, s6, b6⟩
  have d0 := (b6.cell (World.block_lt_of_cell? _ _ e0)).trans e0
  have d1 := (b6.cell (World.block_lt_of_cell? _ _ e1)).trans e1
  have d2 := (b6.cell (World.block_lt_of_cell? _ _ e2)).trans e2
  have d3 := (b6.cell (World.block_lt_of_cell? _ _ e3)).trans e3
  have HH6 := Lib.hid (And.intro d0 (And.intro d1 (And.intro d2 (d3))))
  have HS6 := Lib.hid s6
  have HB6 := Lib.hid (hbD.trans (b6.mono (by omega)))
  have HR6 := Lib.hid (hR2.below b6 (by omega))
  have z6 := b6.size
  clear s6 b6 KA
  refine hKq.out _ _ HH6.out (fun _ => ?_)
  clear hKq Kq
  try simp only [Act.put, List.setIfInBounds_toArray, List.set_cons_zero, List.set_cons_succ]
  refine wpAnyH_ready (rs := [3]) (by kernel_rfl) (by simp) ?_
  refine AllReadyH.cons (o := ⟨some 6, _, _, _, _, _⟩) rfl (fun Kq hKq => ?_) AllReadyH.nil
  go_simp
  refine (KB.out _ HB6.out).mono ?_
  rintro e w7 ⟨u7, rfl, s7, b7⟩
  have f0 := (b7.cell (World.block_lt_of_cell? _ _ d0)).trans d0
  have f1 := (b7.cell (World.block_lt_of_cell? _ _ d1)).trans d1
  have f2 := (b7.cell (World.block_lt_of_cell? _ _ d2)).trans d2
  have f3 := (b7.cell (World.block_lt_of_cell? _ _ d3)).trans d3
  have HH7 := Lib.hid (And.intro f0 (And.intro f1 (And.intro f2 (f3))))
  have HS67 := Lib.hid (BasisO_is (BasisO_below HS6.out b7 (.inr (Nat.le_refl _))))
  have HS7 := Lib.hid (BasisO_is s7)
  have HB7 := Lib.hid (HB6.out.trans (b7.mono (by omega)))
  have HR7 := Lib.hid (HR6.out.below b7 (by omega))
  have z7 := b7.size
  clear s7 b7 KB HS6 HR6
  refine hKq.out _ _ HH7.out (fun _ => ?_)
  clear hKq Kq
  try simp only [Act.put, List.setIfInBounds_toArray, List.set_cons_zero, List.set_cons_succ]
  refine wpAnyH_ready (rs := [4]) (by kernel_rfl) (by simp) ?_
  refine AllReadyH.cons (o := ⟨some 7, _, _, _, _, _⟩) rfl (fun Kq hKq => ?_) AllReadyH.nil
  go_simp
  refine (KS.out _ _ _ _ _ _ _ HS67.out HS7.out).mono ?_
  rintro e w8 ⟨u8, rfl, s8, b8⟩
  have g0 := (b8.cell (World.block_lt_of_cell? _ _ f0)).trans f0
  have g1 := (b8.cell (World.block_lt_of_cell? _ _ f1)).trans f1
  have g2 := (b8.cell (World.block_lt_of_cell? _ _ f2)).trans f2
  have g3 := (b8.cell (World.block_lt_of_cell? _ _ f3)).trans f3
  have HH8 := Lib.hid (And.intro g0 (And.intro g1 (And.intro g2 (g3))))
  have HS8 := Lib.hid (BasisO_is s8)
  have HB8 := Lib.hid (HB7.out.trans (b8.mono (by omega)))
  have HR8 := Lib.hid (HR7.out.below b8 (by omega))
  have z8 := b8.size
  clear s8 b8 KS HS7 HS67 HR7
  refine hKq.out _ _ HH8.out (fun _ => ?_)
  clear hKq Kq
  try simp only [Act.put, List.setIfInBounds_toArray, List.set_cons_zero, List.set_cons_succ]
  refine wpAnyH_ready (rs := [5]) (by kernel_rfl) (by simp) ?_
  refine AllReadyH.cons (o := ⟨some 8, _, _, _, _, _⟩) rfl (fun Kq hKq => ?_) AllReadyH.nil
  go_simp
  refine (KO.out _ _ _ _ HS8.out).mono ?_
  rintro e w9 ⟨u9, rfl, ⟨u4, rfl, hw4, ad4, n4, cap4, us4, rfl, r4⟩, b9⟩
  have k0 := (b9.cell (World.block_lt_of_cell? _ _ g0)).trans g0
  have k1 := (b9.cell (World.block_lt_of_cell? _ _ g1)).trans g1
  have k2 := (b9.cell (World.block_lt_of_cell? _ _ g2)).trans g2
  have k3 := (b9.cell (World.block_lt_of_cell? _ _ g3)).trans g3
  have HH9 := Lib.hid (And.intro k0 (And.intro k1 (And.intro k2 (k3))))
  have hR9 := HR8.out.below b9 (by omega)
  have HB9 := Lib.hid (HB8.out.trans (b9.mono (by omega)))
  have z9 := b9.size
  have HN := Lib.hid r4
  have q0 := hR9.c0
  have q1 := hR9.c1
  have y0 := hR9.f0
  have y1 := hR9.f1
  clear b9 KO HS8 HR8 r4
  refine hKq.out _ _ HH9.out (fun _ => ?_)
  clear hKq Kq
  try simp only [Act.put, List.setIfInBounds_toArray, List.set_cons_zero, List.set_cons_succ]
  refine wpAnyH_ready (rs := [6]) (by kernel_rfl) (by simp) ?_
  refine AllReadyH.cons (o := ⟨none, _, _, _, _, _⟩) rfl (fun Kq hKq => ?_) AllReadyH.nil
  go_simp
  have hm := set2_mv w9 w.heap.size (.int .i64 r9.1) (.slice ad4 n4 cap4)
  have m0 := (World.cell?_of_block (a := ⟨A, 0, none⟩) (hm.block A (World.block_lt_of_cell? _ _ k0) (by omega))).trans k0
  have m1 := (World.cell?_of_block (a := ⟨A, 1, none⟩) (hm.block A (World.block_lt_of_cell? _ _ k1) (by omega))).trans k1
  have m2 := (World.cell?_of_block (a := ⟨B, 0, none⟩) (hm.block B (World.block_lt_of_cell? _ _ k2) (by omega))).trans k2
  have m3 := (World.cell?_of_block (a := ⟨B, 1, none⟩) (hm.block B (World.block_lt_of_cell? _ _ k3) (by omega))).trans k3
  have hK := (hR9.set0 (.int .i64 r9.1)).set1 (.slice ad4 n4 cap4)
  have g0 := hK.c0
  have g1 := hK.c1
  have HM := Lib.hid hm
  generalize (w9.setCell ⟨w.heap.size, 0, none⟩ (.int .i64 r9.1)).setCell ⟨w.heap.size, 1, none⟩ (.slice ad4 n4 cap4) = W9 at *
  have HHM := Lib.hid (And.intro m0 (And.intro m1 (And.intro m2 m3)))
  refine hKq.out _ _ HHM.out (fun _ => ?_)
  clear hKq Kq hm hK
  refine wpAnyH_done (by kernel_rfl) ?_ _
  go_wp2
  refine bodyPost_ret (by simp [results, Tryz.results30, go_sem, g0, g1]; rfl) rfl ?_
  have hm := HM.out
  exact ⟨_, _, _, _, rfl, rfl, hw4, ⟨_, (HN.out.mv hm (.inr (by omega))).mono (by omega) hm.size⟩, HB9.out.trans (hm.below (Nat.le_refl _) HB9.out.size)⟩
set_option maxRecDepth 100000 in
set_option maxHeartbeats 1600000 in
theorem inter : InterOp := fun w l h l2 h2 va vb a b sa hfa sb hfb => by
  have hE : interOf a b = bif pair a b then orthOf (sumOf (orthOf a) (orthOf b)) else (0, []) := rfl
  have sa0 := sa
  have sb0 := sb
  obtain ⟨Wa, ra⟩ := a
  obtain ⟨Wb, rb⟩ := b
  obtain ⟨ua, rfl, hwa, ada, na, capa, rfl, sa⟩ := sa
  obtain ⟨ub, rfl, hwb, adb, nb, capb, rfl, sb⟩ := sb
  have hA := ((Blk.new w (.int .i64 Wa) (.slice ada na capa) 26).alloc (.cells #[.int .i64 Wb, .slice adb nb capb] 26)).alloc (.cells #[.int .i64 0, .slice none 0 0] 26)
  have hB := (Blk.new (w.alloc (.cells #[.int .i64 Wa, .slice ada na capa] 26)) (.int .i64 Wb) (.slice adb nb capb) 26).alloc (.cells #[.int .i64 0, .slice none 0 0] 26)
  have hR := Blk.new ((w.alloc (.cells #[.int .i64 Wa, .slice ada na capa] 26)).alloc (.cells #[.int .i64 Wb, .slice adb nb capb] 26)) (.int .i64 0) (.slice none 0 0) 26
  have hb : Below w.heap.size w (((w.alloc (.cells #[.int .i64 Wa, .slice ada na capa] 26)).alloc (.cells #[.int .i64 Wb, .slice adb nb capb] 26)).alloc (.cells #[.int .i64 0, .slice none 0 0] 26)) :=
    ((below_box w _).alloc (by simp) _).alloc (by simp; omega) _
  have hz : (((w.alloc (.cells #[.int .i64 Wa, .slice ada na capa] 26)).alloc (.cells #[.int .i64 Wb, .slice adb nb capb] 26)).alloc (.cells #[.int .i64 0, .slice none 0 0] 26)).heap.size = w.heap.size + 1 + 1 + 1 := by simp
  rw [World.size_alloc] at hB
  rw [World.size_alloc, World.size_alloc] at hR
  have HA0 := Lib.hid (fun w' (hx : Below w.heap.size w w') => And.intro (BasisI_below sa0 hx (.inr (Nat.le_refl _))) (BasisI_below sb0 hx (.inr (Nat.le_refl _))))
  clear sa sb sa0 sb0
  have KC : Hid (∀ w', Below w.heap.size w w' → Blk w' w.heap.size 26 (.int .i64 Wa) (.slice ada na capa) → Blk w' (w.heap.size + 1) 26 (.int .i64 Wb) (.slice adb nb capb) →
      Calls Tryz.prog 26 #[.agg #[.int .i64 Wa, .slice ada na capa], .agg #[.int .i64 Wb, .slice adb nb capb], .agg #[.int .i64 0, .slice none 0 0], .func (.func 30) #[] #[.pointer (some ⟨w.heap.size, 0, none⟩), .pointer (some ⟨w.heap.size + 1, 0, none⟩)]] w'
        fun e w5 => ∃ W ad n cap, e = .returned (.agg #[.int .i64 W, .slice ad n cap]) ∧ NewQ (interOf (Wa, ra) (Wb, rb)) w' W ad n cap w5) := Lib.hid fun w' hx hA' hB' => by
    obtain ⟨sa9, sb9⟩ := HA0.out w' hx
    cases hp : pair (Wa, ra) (Wb, rb)
    · rw [hp] at hE
      rw [hE]
      refine (cmp_no w' sa9 hfa sb9 hfb hp 0 none 0 0 _ _ _).mono ?_
      rintro e w5 ⟨rfl, b5⟩
      exact ⟨_, _, _, _, rfl, rfl, by omega, ⟨_, Net.nil _ _ _ _ _ _ (Nat.zero_le _) (fun _ => rfl)⟩, b5⟩
    · rw [hp] at hE
      rw [hE]
      refine cmp_yes w' sa9 hfa sb9 hfb hp 0 none 0 0 30 (by intro args w; go_simp) _ _ (NewQ (orthOf (sumOf (orthOf (Wa, ra)) (orthOf (Wb, rb)))) w') fun w2 R hx2 hRs hRk => ?_
      have hzA := hA'.lt
      have hzB := hB'.lt
      have hz2 := hx2.size
      refine (interC w2 (a := (Wa, ra)) (b := (Wb, rb)) (hA'.below hx2 hzA) (hB'.below hx2 hzB) (BasisI_below sa9 hx2 (.inr (Nat.le_refl _))) hfa (BasisI_below sb9 hx2 (.inr (Nat.le_refl _))) hfb).mono ?_
      rintro e w5 ⟨W5, ad5, n5, cap5, rfl, h5, hw5, ⟨us5, r5⟩, b5⟩
      have hRl := hRk.lt
      have hm := set2_mv w5 R (.int .i64 W5) (.slice ad5 n5 cap5)
      exact ⟨W5, ad5, n5, cap5, rfl, hRk.below b5 hRl, h5, hw5, ⟨us5, (r5.mv hm (.inr (by omega))).mono hz2 hm.size⟩, (hx2.trans (b5.mono hz2)).trans (hm.below hRs (by have := b5.size; omega))⟩
  have KN := Lib.hid (fun w' => newP w' 0 (by omega) (by omega))
  rw [new_zero] at KN
  generalize hr : interOf (Wa, ra) (Wb, rb) = r0 at *
  clear hE HA0
  go_enter Tryz.func9, Tryz.ntmps9
  go_wp2
  generalize ((w.alloc (.cells #[.int .i64 Wa, .slice ada na capa] 26)).alloc (.cells #[.int .i64 Wb, .slice adb nb capb] 26)).alloc (.cells #[.int .i64 0, .slice none 0 0] 26) = D at *
  have hA2 := hA.drewN 1
  have hB2 := hB.drewN 1
  have hR2 : Blk D.drew (w.heap.size + 1 + 1) 26 (.int .i64 0) (.slice none 0 0) := hR.drewN 1
  have e0 : D.drew.cell? ⟨w.heap.size, 0, none⟩ = some (.int .i64 Wa) := hA2.c0
  have e1 : D.drew.cell? ⟨w.heap.size, 1, none⟩ = some (.slice ada na capa) := hA2.c1
  have e2 : D.drew.cell? ⟨w.heap.size + 1, 0, none⟩ = some (.int .i64 Wb) := hB2.c0
  have e3 : D.drew.cell? ⟨w.heap.size + 1, 1, none⟩ = some (.slice adb nb capb) := hB2.c1
  have hA2 : Blk D.drew w.heap.size 26 (.int .i64 Wa) (.slice ada na capa) := hA2
  have hB2 : Blk D.drew (w.heap.size + 1) 26 (.int .i64 Wb) (.slice adb nb capb) := hB2
  have hbD : Below w.heap.size w D.drew := hb.drew
  have hzD : D.drew.heap.size = w.heap.size + 1 + 1 + 1 := hz
  clear hA hB hb hz hR
  refine wp_region_held (S := fun w' => w'.cell? ⟨w.heap.size, 0, none⟩ = some (.int .i64 Wa) ∧ w'.cell? ⟨w.heap.size, 1, none⟩ = some (.slice ada na capa) ∧ w'.cell? ⟨w.heap.size + 1, 0, none⟩ = some (.int .i64 Wb) ∧ w'.cell? ⟨w.heap.size + 1, 1, none⟩ = some (.slice adb nb capb)) (by kernel_rfl) ?_
  change wpAnyH _ _ _ _ _ _ _ _ D.drew
  generalize D.drew = D1 at *
  have HH := Lib.hid (And.intro e0 (And.intro e1 (And.intro e2 e3)))
  refine wpAnyH_take (i := 0) (oi := ⟨some 5, _, _, _, _, _⟩) (v := ?_) rfl (by kernel_rfl) (by kernel_rfl) (by kernel_rfl) (fun _ _ _ h => h) (Or.inl ⟨by rfl, ?_⟩) HH.out ?_
  rotate_left
  · intro wS hSw
    try dsimp only at hSw
    go_simp
    all_goals (with_reducible rfl)
  simp only [Act.put, List.setIfInBounds_toArray, List.set_cons_zero, List.set_cons_succ]
  refine wpAnyH_take (i := 1) (oi := ⟨some 6, _, _, _, _, _⟩) (v := ?_) rfl (by kernel_rfl) (by kernel_rfl) (by kernel_rfl) (fun _ _ _ h => h) (Or.inl ⟨by rfl, ?_⟩) HH.out ?_
  rotate_left
  · intro wS hSw
    try dsimp only at hSw
    go_simp
    all_goals (with_reducible rfl)
  simp only [Act.put, List.setIfInBounds_toArray, List.set_cons_zero, List.set_cons_succ]
  refine wpAnyH_take (i := 3) (oi := ⟨some 8, _, _, _, _, _⟩) (v := ?_) rfl (by kernel_rfl) (by kernel_rfl) (by kernel_rfl) (fun _ _ _ h => h) (Or.inl ⟨by rfl, ?_⟩) HH.out ?_
  rotate_left
  · intro wS hSw
    try dsimp only at hSw
    go_simp
    all_goals (with_reducible rfl)
  simp only [Act.put, List.setIfInBounds_toArray, List.set_cons_zero, List.set_cons_succ]
  refine wpAnyH_ready (rs := [2]) (by kernel_rfl) (by simp) ?_
  refine AllReadyH.cons (o := ⟨some 7, _, _, _, _, _⟩) rfl (fun Kq hKq => ?_) AllReadyH.nil
  go_simp
  refine (KN.out _).mono ?_
  rintro e w6 ⟨rfl, b6⟩
  have d0 := (b6.cell (World.block_lt_of_cell? _ _ e0)).trans e0
  have d1 := (b6.cell (World.block_lt_of_cell? _ _ e1)).trans e1
  have d2 := (b6.cell (World.block_lt_of_cell? _ _ e2)).trans e2
  have d3 := (b6.cell (World.block_lt_of_cell? _ _ e3)).trans e3
  have HH6 := Lib.hid (And.intro d0 (And.intro d1 (And.intro d2 (d3))))
  have hA6 := hA2.below b6 hA2.lt
  have hB6 := hB2.below b6 hB2.lt
  have HR6 := Lib.hid (hR2.below b6 hR2.lt)
  have HB6 := Lib.hid (hbD.trans (b6.mono (by omega)))
  have KC6 := Lib.hid (KC.out w6 HB6.out hA6 hB6)
  have z6 := b6.size
  clear b6 KN KC hA6 hB6
  refine hKq.out _ _ HH6.out (fun _ => ?_)
  clear hKq Kq
  try simp only [Act.put, List.setIfInBounds_toArray, List.set_cons_zero, List.set_cons_succ]
  refine wpAnyH_ready (rs := [4]) (by kernel_rfl) (by simp) ?_
  refine AllReadyH.cons (o := ⟨some 9, _, _, _, _, _⟩) rfl (fun Kq hKq => ?_) AllReadyH.nil
  go_simp
  refine (KC6.out).mono ?_
  rintro e w9 ⟨W9, ad4, n4, cap4, rfl, h4, hw4, ⟨us4, r4⟩, b9⟩
  have k0 := (b9.cell (World.block_lt_of_cell? _ _ d0)).trans d0
  have k1 := (b9.cell (World.block_lt_of_cell? _ _ d1)).trans d1
  have k2 := (b9.cell (World.block_lt_of_cell? _ _ d2)).trans d2
  have k3 := (b9.cell (World.block_lt_of_cell? _ _ d3)).trans d3
  have HH9 := Lib.hid (And.intro k0 (And.intro k1 (And.intro k2 (k3))))
  have hR9 := HR6.out.below b9 (by omega)
  have HB9 := Lib.hid (HB6.out.trans (b9.mono (by omega)))
  have z9 := b9.size
  have HN := Lib.hid r4
  have H4 := Lib.hid h4
  have q0 := hR9.c0
  have q1 := hR9.c1
  have y0 := hR9.f0
  have y1 := hR9.f1
  clear b9 KC6 HR6 r4 h4
  refine hKq.out _ _ HH9.out (fun _ => ?_)
  clear hKq Kq
  try simp only [Act.put, List.setIfInBounds_toArray, List.set_cons_zero, List.set_cons_succ]
  refine wpAnyH_ready (rs := [5]) (by kernel_rfl) (by simp) ?_
  refine AllReadyH.cons (o := ⟨none, _, _, _, _, _⟩) rfl (fun Kq hKq => ?_) AllReadyH.nil
  go_simp
  have hm := set2_mv w9 (w.heap.size + 1 + 1) (.int .i64 W9) (.slice ad4 n4 cap4)
  have m0 := (World.cell?_of_block (a := ⟨w.heap.size, 0, none⟩) (hm.block w.heap.size (World.block_lt_of_cell? _ _ k0) (by omega))).trans k0
  have m1 := (World.cell?_of_block (a := ⟨w.heap.size, 1, none⟩) (hm.block w.heap.size (World.block_lt_of_cell? _ _ k1) (by omega))).trans k1
  have m2 := (World.cell?_of_block (a := ⟨w.heap.size + 1, 0, none⟩) (hm.block (w.heap.size + 1) (World.block_lt_of_cell? _ _ k2) (by omega))).trans k2
  have m3 := (World.cell?_of_block (a := ⟨w.heap.size + 1, 1, none⟩) (hm.block (w.heap.size + 1) (World.block_lt_of_cell? _ _ k3) (by omega))).trans k3
  have hK := (hR9.set0 (.int .i64 W9)).set1 (.slice ad4 n4 cap4)
  have g0 := hK.c0
  have g1 := hK.c1
  have HM := Lib.hid hm
  generalize (w9.setCell ⟨w.heap.size + 1 + 1, 0, none⟩ (.int .i64 W9)).setCell ⟨w.heap.size + 1 + 1, 1, none⟩ (.slice ad4 n4 cap4) = V9 at *
  have HHM := Lib.hid (And.intro m0 (And.intro m1 (And.intro m2 m3)))
  refine hKq.out _ _ HHM.out (fun _ => ?_)
  clear hKq Kq hm hK
  refine wpAnyH_done (by kernel_rfl) ?_ _
  go_wp2
  refine bodyPost_ret (by simp [results, Tryz.results9, go_sem, g0, g1]; rfl) rfl ?_
  have hm := HM.out
  exact ⟨_, rfl, ⟨_, by rw [H4.out], by rw [← H4.out]; exact hw4, _, _, _, _, rfl, (HN.out.mv hm (.inr (by omega))).mono (by omega) hm.size⟩, HB9.out.trans (hm.below (by omega) HB9.out.size)⟩
end Go.Proofs.YtefcfeikooknmaaGreat.SubI

