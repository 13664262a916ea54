/-
  The inverse in the field by walking the powers of 2, of the program: what it answers.
-/
import Derived.Test.YtklcaagjneggpaaFieldW
import Derived.Deep.RegionWith
import Derived.Handy
import Derived.Deep.LoopGhost
namespace Go.Proofs.Ytklcaagjneggpaa.InvW
open Go.ChangeShapes Go.WideShapes Go.ChangeAt Go.RowKit
open Go.Proofs.Ytklcaagjneggpaa.Seq Go.Proofs.Ytklcaagjneggpaa.Help Go.Proofs.Ytklcaagjneggpaa.Field Go.Proofs.Ytklcaagjneggpaa.FieldW

set_option maxHeartbeats 1600000 in
theorem next (w : World) (a b : Int) : Calls Try.prog 40 #[.agg #[.int .i64 a, .int .i64 b]] w fun e w' => e = .returned (.agg #[.int .i64 (Field.mul a 2), .int .i64 (Field.mul b 510)]) ∧ Below w.heap.size w w' := by
  have hm := Lib.hid (fun w' x y => impl_mul w' x y)
  go_enter Try.func40, Try.ntmps40
  go_wp2_with fail
  go_region_with (go_at_call 19; refine (hm.out _ _ _).mono ?_; rintro e w' ⟨rfl, rfl⟩)
  all_goals
    go_wp2
    go_returns
    exact ⟨rfl, (((Below.refl _ w).alloc (Nat.le_refl _) _).alloc (by simp) _).drew⟩

/-- A block of two numbers. -/
structure Pair (w : World) (b : Nat) (x y : Int) : Prop where
  obj : w.heap[b]? = some (.cells #[.int .i64 x, .int .i64 y] 33 (0, 0))
/-- What the walk reads of it. -/
structure Reads (w : World) (b : Nat) (x y : Int) : Prop where
  c0 : w.cell? ⟨b, 0, none⟩ = some (.int .i64 x)
  c1 : w.cell? ⟨b, 1, none⟩ = some (.int .i64 y)
  f0 : w.frozen? ⟨b, 0, none⟩ = false
  f1 : w.frozen? ⟨b, 1, none⟩ = false
theorem Pair.reads {w : World} {b : Nat} {x y : Int} (h : Pair w b x y) : Reads w b x y := by
  obtain ⟨hB⟩ := h
  exact ⟨by simp [World.cell?, hB], by simp [World.cell?, hB], by simp [World.frozen?, hB], by simp [World.frozen?, hB]⟩
theorem Pair.below {w w' : World} {b n : Nat} {x y : Int} (h : Pair w b x y) (hb : Below n w w') (hn : b < n) : Pair w' b x y :=
  ⟨(hb.block b hn).trans h.obj⟩

theorem Pair.set {w : World} {b : Nat} {x y : Int} (h : Pair w b x y) (p q : Int) : Pair ((w.setCell ⟨b, 0, none⟩ (.int .i64 p)).setCell ⟨b, 1, none⟩ (.int .i64 q)) b p q := by
  obtain ⟨hB⟩ := h
  have h1 : (w.setCell ⟨b, 0, none⟩ (.int .i64 p)).heap[b]? = some (.cells #[.int .i64 p, .int .i64 y] 33 (0, 0)) := by
    rw [heap_setCell_same _ _ _ _ _ _ hB]; rfl
  exact ⟨by rw [heap_setCell_same _ _ _ _ _ _ h1]; rfl⟩
theorem Pair.other {w : World} {b c : Nat} {x y : Int} (h : Pair w b x y) (hn : b ≠ c) (p q : Int) : Pair ((w.setCell ⟨c, 0, none⟩ (.int .i64 p)).setCell ⟨c, 1, none⟩ (.int .i64 q)) b x y :=
  ⟨(Below.heap_setCell _ _ _ _ hn).trans ((Below.heap_setCell _ _ _ _ hn).trans h.obj)⟩
theorem below_set {w w2 : World} {b : Nat} (h : Below w.heap.size w w2) (hb : w.heap.size ≤ b) (p q : Int) : Below w.heap.size w ((w2.setCell ⟨b, 0, none⟩ (.int .i64 p)).setCell ⟨b, 1, none⟩ (.int .i64 q)) :=
  (h.setCell hb _).setCell hb _

set_option maxRecDepth 100000 in
theorem impl_inv (w : World) (a : Int) : Calls Try.prog 21 #[.int .i64 a] w fun e w' => e = .returned (.int .i64 (Field.inv a)) ∧ Below w.heap.size w w' := by
  generalize hR : Field.inv a = R
  have HR := Lib.hid hR
  clear hR
  go_enter Try.func21, Try.ntmps21
  go_wp2
  go_loopg [] 1018 (fun g wr => ∃ k : Nat, k < 1018 ∧ g = 1018 - k ∧ Pair wr w.heap.size 1 1 ∧ Pair wr (w.heap.size + 1) (pw 2 k 1019) (pw 510 k 1019) ∧ (∀ j, j < k → (pw 2 j 1019 : Int) ≠ a) ∧ Below w.heap.size w wr)
  case atStart =>
    refine ⟨0, by omega, rfl, ⟨?_⟩, ⟨?_⟩, fun j hj => by omega, ((Below.refl _ w).alloc (Nat.le_refl _) _).alloc (by simp) _⟩
    · rw [Below.heap_alloc _ _ _ (by simp)]; exact heap_alloc_new w _
    · have h := heap_alloc_new (w.alloc (.cells #[.int .i64 1, .int .i64 1] 33 (0, 0))) (.cells #[.int .i64 1, .int .i64 1] 33 (0, 0))
      rw [World.size_alloc] at h
      exact h
  case round =>
    obtain ⟨k, hk, rfl, h1, h2, hnot, hb⟩ := hrel
    obtain ⟨c0, c1, f0, f1⟩ := h1.reads
    obtain ⟨d0, d1, g0, g1⟩ := h2.reads
    have H1 := Lib.hid h1
    have H2 := Lib.hid h2
    have HN := Lib.hid hnot
    clear h1 h2 hnot
    by_cases he : (pw 2 k 1019 : Int) = a
    · have HE := Lib.hid he
      go_wp2
      go_ret
      refine ⟨ret_int rfl ?_, hb⟩
      rw [← HR.out, ← HE.out, inv_pw]
    · have hx := fun w' => next w' (pw 2 k 1019) (pw 510 k 1019)
      rw [mul_two, mul_half] at hx
      have hnot : ∀ j, j < k + 1 → (pw 2 j 1019 : Int) ≠ a := fun j hj => by
        rcases Nat.lt_or_ge j k with h | h
        · exact HN.out j h
        · obtain rfl : j = k := by omega
          exact he
      by_cases hk1 : k + 1 = 1018
      · rw [hk1] at hx hnot
        rw [two_order, half_order] at hx
        rw [inv_none hnot] at HR
        have HX := Lib.hid hx
        clear hx hnot HN
        go_wp2_with fail
        go_at_call 40
        refine (HX.out _).mono ?_
        rintro e w2 ⟨rfl, b2⟩
        have z2 := hb.size
        have h1 := H1.out.below b2 (lt_of_block H1.out.obj)
        have h2 := H2.out.below b2 (lt_of_block H2.out.obj)
        replace hb := hb.trans (b2.mono z2)
        clear b2 c0 c1 f0 f1 d0 d1 g0 g1 H1 H2
        obtain ⟨c0, c1, f0, f1⟩ := h1.reads
        obtain ⟨d0, d1, g0, g1⟩ := h2.reads
        clear h1 h2
        go_wp2
        go_ret
        exact ⟨ret_int rfl HR.out, below_set hb (Nat.le_succ _) 1 1⟩
      · have hne := two_not (k := k + 1) (by omega) (by omega)
        obtain ⟨p, hp⟩ : ∃ p, pw 2 (k + 1) 1019 = p := ⟨_, rfl⟩
        obtain ⟨q, hq⟩ : ∃ q, pw 510 (k + 1) 1019 = q := ⟨_, rfl⟩
        rw [hp, hq] at hx
        rw [hp] at hne
        have HP := Lib.hid hp
        have HQ := Lib.hid hq
        have HX := Lib.hid hx
        have HM := Lib.hid hnot
        have hne2 : ¬ (p : Int) = 1 := by omega
        clear hp hq hx hnot hne HN
        go_wp2_with fail
        go_at_call 40
        refine (HX.out _).mono ?_
        rintro e w2 ⟨rfl, b2⟩
        have z2 := hb.size
        have h1 := H1.out.below b2 (lt_of_block H1.out.obj)
        have h2 := H2.out.below b2 (lt_of_block H2.out.obj)
        replace hb := hb.trans (b2.mono z2)
        clear b2 c0 c1 f0 f1 d0 d1 g0 g1 H1 H2
        obtain ⟨c0, c1, f0, f1⟩ := h1.reads
        obtain ⟨d0, d1, g0, g1⟩ := h2.reads
        have H1 := Lib.hid h1
        have H2 := Lib.hid h2
        clear h1 h2
        go_wp2
        go_roundg (1018 - (k + 1))
        case measure => omega
        case rel => exact ⟨k + 1, by omega, rfl, H1.out.other (by omega) _ _, by rw [HP.out, HQ.out]; exact H2.out.set _ _, HM.out, below_set hb (Nat.le_succ _) _ _⟩
end Go.Proofs.Ytklcaagjneggpaa.InvW
