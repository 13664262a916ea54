/-
  The model's chapter 10: generations' parts, bytes to symbols.
  The model's chapter 10: the parts of a generation.
  The model's chapter 10: symbols to bytes.
  Lists of generations in memory.
  The model's JoinGenerations.
  The model's SplitMessage.
  What the laws of chapter 10 ask of the program's functions; and the model's contracts as the exact laws take them.
  Chapter 10's answers are small.
-/
import Derived.Test.YtkppkbafoeblhaaGF
import Derived.Test.YtkppkbafoeblhaaGC
import Derived.Test.YtkppkbafoeblhaaGE
import Derived.Test.YtkppkbafoeblhaaGA
namespace Go.Proofs.Ytkppkbafoeblhaa.GenW
open Go.ChangeShapes Go.WideShapes Go.ChangeAt Go.RowKit
open Go.Proofs.Ytkppkbafoeblhaa.Seq Go.Proofs.Ytkppkbafoeblhaa.Help Go.Proofs.Ytkppkbafoeblhaa.Field Go.Proofs.Ytkppkbafoeblhaa.FieldW Go.Proofs.Ytkppkbafoeblhaa.Vec Go.Proofs.Ytkppkbafoeblhaa.VecW Go.Proofs.Ytkppkbafoeblhaa.Mat Go.Proofs.Ytkppkbafoeblhaa.MatW Go.Proofs.Ytkppkbafoeblhaa.Uv Go.Proofs.Ytkppkbafoeblhaa.UvW Go.Proofs.Ytkppkbafoeblhaa.Shape Go.Proofs.Ytkppkbafoeblhaa.Gen

/-- A row of which the first k components are filled. -/
def rowTo (c : Nat) (xs : List Int) (p k : Nat) : List Int := (List.range c).map fun q => if q < k then xs[p + q]?.getD 0 else 0
theorem rowTo_0 (c : Nat) (xs : List Int) (p : Nat) : rowTo c xs p 0 = List.replicate c 0 := by
  unfold rowTo
  simp [List.map_const']
theorem rowTo_set {c k p : Nat} {xs : List Int} {x : Int} (hx : xs[p + k]? = some x) (hk : k < c) : (rowTo c xs p k).set k x = rowTo c xs p (k + 1) := by
  unfold rowTo
  apply List.ext_getElem?
  intro i
  rw [List.getElem?_set, List.getElem?_map, List.getElem?_map]
  by_cases h1 : k = i
  · subst h1
    simp [hk, hx]
  · rw [if_neg h1]
    by_cases h2 : i < c
    · rw [List.getElem?_range h2]
      have : (i < k + 1) = (i < k) := by apply propext; omega
      simp [this]
    · rw [List.getElem?_eq_none (by simp; omega)]; rfl
theorem rowTo_end {c k p j : Nat} {xs : List Int} (hp : p = j * c) (h : c ≤ k ∨ xs.length ≤ p + k) : rowTo c xs p k = Gen.rowAt c xs j := by
  unfold rowTo Gen.rowAt
  refine List.map_congr_left fun q hq => ?_
  have hq' := List.mem_range.1 hq
  subst hp
  by_cases h1 : q < k
  · rw [if_pos h1]
  · rw [if_neg h1, List.getElem?_eq_none (by omega)]; rfl
set_option maxRecDepth 100000 in
set_option maxHeartbeats 3200000 in
theorem spec_toSym (w : World) {l h : Nat} {ad : Option Addr} {n cap : Nat} {data : List Int} (s : Sl w l h .u8 ad n cap data) (W : Int) (h0 : -9223372036854775808 ≤ W) (h1 : W ≤ 9223372036854775807) :
    Calls Try.prog 33 #[.slice ad n cap, .int .i64 W] w (Gives2 (toSym data W) w) := by
  have hL := Lib.hid s.len
  have hcap := s.le
  have hbig := s.big
  unfold maxLen at hbig
  have HI := fun w' : World => l1In_is w' W 1 16
  have hS : symOk W data.length = ((decide (1 ≤ W) && decide (W ≤ 16)) && decide (n ≤ 400)) := by rw [← s.len]; rfl
  have HS := Lib.hid s
  clear s
  cases hW : decide (1 ≤ W) && decide (W ≤ 16)
  · rw [hW] at HI hS
    rw [toSym_no (by rw [hS]; rfl)]
    have HI := Lib.hid HI
    clear hW hS
    go_enter Try.func33, Try.ntmps33
    go_wp2_with fail
    go_at_call 57
    refine (HI.out _).mono ?_
    rintro e w1 ⟨rfl, rfl⟩
    go_wp2
    go_ret
    exact ⟨_, _, _, _, rfl, Grid.nil _ _ _ _ _ _, (Below.refl _ _).alloc (Nat.le_refl _) _⟩
  rw [hW] at HI hS
  obtain ⟨c, rfl⟩ : ∃ c : Nat, W = c := ⟨W.toNat, by simp at hW; omega⟩
  have hc : 1 ≤ c ∧ c ≤ 16 := by simp at hW; omega
  have HI := Lib.hid HI
  clear hW h0 h1
  by_cases hn : n ≤ 400
  case neg =>
    rw [toSym_no (by rw [hS]; simp; omega)]
    clear hS
    go_enter Try.func33, Try.ntmps33
    go_wp2_with fail
    go_at_call 57
    refine (HI.out _).mono ?_
    rintro e w1 ⟨rfl, rfl⟩
    go_wp2
    go_ret
    exact ⟨_, _, _, _, rfl, Grid.nil _ _ _ _ _ _, (Below.refl _ _).alloc (Nat.le_refl _) _⟩
  rw [toSym_ok (by rw [hS]; simp [hn]), Int.toNat_natCast]
  clear hS
  have e1 : app [] (n : Int) = uv data.length := by rw [app_in (by omega), List.nil_append, hL.out]
  have e6 : (uv data.length).length ≤ 6 := uv_len6 (by rw [hL.out]; omega)
  have HE := Lib.hid e1
  clear e1
  go_enter Try.func33, Try.ntmps33
  go_wp2_with fail
  go_at_call 57
  refine (HI.out _).mono ?_
  rintro e w1 ⟨rfl, rfl⟩
  have hb1 : Below w.heap.size w (w.alloc (.cells #[] 43)) := (Below.refl _ _).alloc (Nat.le_refl _) _
  go_wp2_with fail
  go_at_call 75
  refine (spec_app _ (Row.nil _ 0 0 .u8 5 _).sl (Nat.zero_le _) _).mono ?_
  rintro e w2 ⟨ad2, n2, cap2, rfl, r2, b2⟩
  rw [HE.out] at r2
  have hz2 : (w.alloc (.cells #[] 43)).heap.size ≤ ((w.alloc (.cells #[] 43)).alloc (.cells #[] 5)).heap.size := by simp
  have hz3 := b2.size
  have hb2 : Below w.heap.size w w2 := (hb1.alloc (by simp) _).trans (b2.mono (by simp; omega))
  have hw2 : w.heap.size + 2 ≤ w2.heap.size := by simp at hz3; omega
  have hn2 : n2 ≤ 6 := by rw [← r2.len]; exact e6
  replace r2 := r2.lo (l' := w.heap.size + 1) (by simp)
  have s2 := HS.out.below hb2 (.inr (by omega))
  clear b2 hz2 hz3 hb1
  go_wp2_with (at_builtin; refine wpList_app r2 s2 Try.underlying22 info_uint8 (by unfold maxLen; omega) (by omega) (by omega) rfl _ _ rfl rfl rfl ?_; intro ad6 cap6 w6 r6 m6)
  have hb6 : Below w.heap.size w w6 := hb2.trans (m6.below (by omega) (by omega))
  have hz6 := m6.size
  have hw6 : w.heap.size + 2 ≤ w6.heap.size := by omega
  have hxl := Lib.hid r6.len
  have HA := Lib.hid r6.sl
  have hcap6 := r6.le
  have hbig6 := r6.big
  unfold maxLen at hbig6
  obtain ⟨N, hN⟩ : ∃ N, N = n2 + n := ⟨_, rfl⟩
  rw [← hN] at hxl HA hcap6 ⊢
  have hN6 : N ≤ 406 := by omega
  clear hN r6 m6 s2 r2 hb2 hz6 hw2 hn2
  generalize uv data.length ++ data = xs at *
  have HB6 := Lib.hid hb6
  clear hb6
  go_wp2
  go_loopw [5, 7] (fun o i wr => ∃ (j p : Nat) (ad' : Option Addr) (cap' : Nat) (us : List Value), p ≤ N + 16 ∧ j ≤ p ∧ i = .int .i64 p ∧ o = .slice ad' j cap' ∧ (∀ g, ad' = some ⟨g, 0, none⟩ → g < wr.heap.size) ∧
    Grid wr w6.heap.size wr.heap.size 3 43 ad' j cap' us ((List.range j).map (Gen.rowAt c xs)) ∧ Below w6.heap.size w6 wr ∧ Hid (p = j * c ∧ ∀ i, i < j → i * c < N)) (fun _ i _ => N - (intOf i).toNat)
  case atStart => exact ⟨0, 0, _, 0, [], by omega, Nat.le_refl _, rfl, rfl, (fun g hg => by obtain rfl := (Addr.mk.inj (Option.some.inj hg)).1; omega), by simpa using Grid.nil _ _ _ _ _ _, Below.refl _ _, by simp, by simp⟩
  case round =>
    obtain ⟨j, p, ad', cap', us, hp, hjp, rfl, rfl, had, hr, hb, HP⟩ := hrel
    have zb := hb.size
    by_cases hlt : p < N
    · have HM1 := Lib.hid (show (List.range (j + 1)).map (Gen.rowAt c xs) = (List.range j).map (Gen.rowAt c xs) ++ [Gen.rowAt c xs j] by rw [List.range_succ, List.map_append]; rfl)
      have HP1 := Lib.hid (show p + c = (j + 1) * c ∧ ∀ i, i < j + 1 → i * c < N from ⟨by rw [Nat.succ_mul, ← HP.out.1], fun i hi => by
        rcases Nat.lt_or_ge i j with h | h
        · exact HP.out.2 i h
        · obtain rfl : i = j := by omega
          rw [← HP.out.1]; exact hlt⟩)
      go_wp2_with (at_make; refine wpList_mk (n := c) Try.underlying43 info_int (fits_i64.2 (by omega)) (by unfold maxLen; omega) (by omega) rfl _ _ rfl rfl rfl ?_; intro w7 r7 b7)
      rw [← rowTo_0 c xs p] at r7
      obtain ⟨G, hG⟩ : ∃ G, G = wr.heap.size := ⟨_, rfl⟩
      have zG1 : wr.heap.size ≤ G := Nat.le_of_eq hG.symm
      have zG2 : G ≤ wr.heap.size := Nat.le_of_eq hG
      rw [← hG] at r7 b7 ⊢
      replace had : ∀ g, ad' = some ⟨g, 0, none⟩ → g < G := by rw [hG]; exact had
      replace hr := hr.mono (h' := G) zG1
      clear hG
      go_loopw [9] (fun i w8 => ∃ k : Nat, k ≤ c ∧ i = .int .i64 k ∧ Row w8 G w8.heap.size .i64 3 (some ⟨G, 0, none⟩) c c (rowTo c xs p k) ∧ Below G wr w8) (fun i _ => c - (intOf i).toNat)
      case atStart => exact ⟨0, Nat.zero_le _, rfl, r7, b7⟩
      case round =>
        obtain ⟨k, hk, rfl, r8, b8⟩ := hrel
        have z8 := b8.size
        by_cases hlk : k < c ∧ p + k < N
        · obtain ⟨k1, k2⟩ := hlk
          obtain ⟨a, x, e1, hx, hcx⟩ := (HA.out.below (hb.trans (b8.mono (by omega))) (.inr (Nat.le_refl _))).at_ k2
          subst e1
          have hxf := fits_u8.1 hx.fits
          obtain ⟨y, hy, -, hcy, hfy⟩ := r8.there k1
          obtain ⟨r9, m9⟩ := r8.set (x := x) k1 (fits_i64.2 (by omega))
          rw [rowTo_set hx.get k1] at r9
          have HR9 := Lib.hid r9
          have HB9 := Lib.hid (b8.trans (m9.below (Nat.le_refl _) (by omega)))
          have hz9 := m9.size
          clear r9 m9 hx hy
          go_wp2
          go_roundw
          case rel => exact ⟨k + 1, by omega, by go_num, HR9.out.lt, HB9.out⟩
          case measure => simp [intOf]; omega
        · have HE9 := Lib.hid (rowTo_end HP.out.1 (k := k) (xs := xs) (by have := hxl.out; omega))
          rw [HE9.out] at r8
          have hr4 := (hr.below b8 (.inr zG1)).alloc (.cells #[.slice (some ⟨G, 0, none⟩) c c] 43)
          have ho4 := (OwnInts.of r8).below ((Below.refl _ wr).alloc (Nat.le_refl _) (.cells #[.slice (some ⟨G, 0, none⟩) c c] 43)) (.inl (Nat.le_refl _))
          clear r8
          by_cases hk1 : k < c
          all_goals
            go_wp2_with (at_builtin; refine wpList_snoc hr4.out (u := .slice (some ⟨G, 0, none⟩) c c) (by rw [World.cell?_alloc_new]; rfl) rfl Try.underlying32 info_ints rfl (by unfold maxLen; omega) (by omega) rfl _ _ rfl rfl rfl ?_; intro g5 cap5 w5 o5 p5)
            have hA := hr4.add ho4 had o5 p5 (by simp; omega) (by omega)
            have hb5 := ((hb.trans (b8.mono (by omega))).alloc (by omega) (.cells #[.slice (some ⟨G, 0, none⟩) c c] 43)).trans (p5.below (Nat.le_refl _) (by simp; omega))
            rw [← HM1.out] at hA
            go_roundw
            case rel => exact ⟨j + 1, p + c, _, _, _, by omega, by omega, by go_num, rfl, hA.2, hA.1, hb5, HP1.out⟩
            case measure => simp [intOf]; omega
    · have HJ := Lib.hid (show cuts c xs.length = j by rw [hxl.out]; exact cuts_of (by omega) (by rw [← HP.out.1]; omega) HP.out.2)
      have HG := Lib.hid (hr.lo (l' := w.heap.size) (by omega))
      clear hr
      go_wp2
      go_ret
      exact ⟨_, _, _, _, rfl, by unfold sym; rw [HJ.out]; exact HG.out, HB6.out.trans (hb.mono (by omega))⟩
end Go.Proofs.Ytkppkbafoeblhaa.GenW
namespace Go.Proofs.Ytkppkbafoeblhaa.GenW
open Go.ChangeShapes Go.WideShapes Go.ChangeAt Go.RowKit
open Go.Proofs.Ytkppkbafoeblhaa.Seq Go.Proofs.Ytkppkbafoeblhaa.Help Go.Proofs.Ytkppkbafoeblhaa.Field Go.Proofs.Ytkppkbafoeblhaa.FieldW Go.Proofs.Ytkppkbafoeblhaa.Vec Go.Proofs.Ytkppkbafoeblhaa.VecW Go.Proofs.Ytkppkbafoeblhaa.Mat Go.Proofs.Ytkppkbafoeblhaa.MatW Go.Proofs.Ytkppkbafoeblhaa.Shape Go.Proofs.Ytkppkbafoeblhaa.Gen

theorem spec_genSize (w : World) {l h : Nat} {v : Value} {b : Bs} (s : BasisI w l h v b) : Calls Try.prog 49 #[v] w (Says (.int .i64 b.2.length) w) := by
  obtain ⟨W, rows⟩ := b
  obtain ⟨u, rfl, hw, ad, n, cap, rfl, s⟩ := s
  show Calls _ _ _ _ (Says (.int .i64 rows.length) w)
  rw [show rows.length = n from s.len]
  have hbig := s.big
  have hcap := s.le
  unfold maxLen at hbig
  have hB := Blk.new w (.int .i64 W) (.slice ad n cap) 34
  have hb := below_box w (.cells #[.int .i64 W, .slice ad n cap] 34)
  have c0 := hB.c0
  have c1 := hB.c1
  have HB := Lib.hid hb
  clear s hB hb
  go_enter Try.func49, Try.ntmps49
  go_wp2
  go_ret
  exact ⟨rfl, HB.out⟩
theorem spec_symWidth (w : World) {l h : Nat} {v : Value} {b : Bs} (s : BasisI w l h v b) : Calls Try.prog 50 #[v] w (Says (.int .i64 (colsOf b.2)) w) := by
  obtain ⟨W, rows⟩ := b
  obtain ⟨u, rfl, hw, ad, n, cap, rfl, s⟩ := s
  show Calls _ _ _ _ (Says (.int .i64 (colsOf rows)) w)
  have hB := Blk.new w (.int .i64 W) (.slice ad n cap) 34
  have hb := below_box w (.cells #[.int .i64 W, .slice ad n cap] 34)
  have HK := Lib.hid (spec_cols _ (s.below hb (.inr (Nat.le_refl _))))
  have c0 := hB.c0
  have c1 := hB.c1
  have HB := Lib.hid hb
  clear s hB hb
  go_enter Try.func50, Try.ntmps50
  go_wp2_with fail
  go_at_call 28
  refine HK.out.mono ?_
  rintro e w1 ⟨rfl, rfl⟩
  go_wp2
  go_ret
  exact ⟨rfl, HB.out⟩
theorem spec_eqGen (w : World) {l h l2 h2 : Nat} {v v2 : Value} {b b2 : Bs} (s : BasisI w l h v b) (s2 : BasisI w l2 h2 v2 b2) (hr : ∀ xs ∈ b.2, xs.length ≤ 17592186044416) : Calls Try.prog 51 #[v, v2] w (Says (.bool (sameG b b2)) w) := by
  obtain ⟨W, rows⟩ := b
  obtain ⟨W2, rows2⟩ := b2
  obtain ⟨u, rfl, hw, ad, n, cap, rfl, s⟩ := s
  obtain ⟨u2, rfl, hw2, ad2, n2, cap2, rfl, s2⟩ := s2
  have HF := Lib.hid (show sameG (W, rows) (W2, rows2) = ((W == W2) && MatW.sameM rows rows2) from rfl)
  have hb := (below_box w (.cells #[.int .i64 W, .slice ad n cap] 34)).alloc (by simp) (.cells #[.int .i64 W2, .slice ad2 n2 cap2] 34)
  have HK := Lib.hid (spec_eqM ((w.alloc (.cells #[.int .i64 W, .slice ad n cap] 34)).alloc (.cells #[.int .i64 W2, .slice ad2 n2 cap2] 34)) (s.below hb (.inr (Nat.le_refl _))) (s2.below hb (.inr (Nat.le_refl _))) hr)
  have hB := (Blk.new w (.int .i64 W) (.slice ad n cap) 34).alloc (.cells #[.int .i64 W2, .slice ad2 n2 cap2] 34)
  have hB2 := Blk.new (w.alloc (.cells #[.int .i64 W, .slice ad n cap] 34)) (.int .i64 W2) (.slice ad2 n2 cap2) 34
  rw [World.size_alloc] at hB2
  have c0 := hB.c0
  have c1 := hB.c1
  have d0 := hB2.c0
  have d1 := hB2.c1
  have HX := Lib.hid hb
  clear s s2 hB hB2 hr hb
  by_cases hW : W = W2
  · subst hW
    have HE := Lib.hid (show (W == W) = true by simp)
    generalize sameM rows rows2 = B2 at *
    go_enter Try.func51, Try.ntmps51
    go_wp2_with fail
    go_at_call 72
    refine HK.out.mono ?_
    rintro e w' ⟨rfl, q, rfl⟩
    go_wp2
    go_ret
    exact ⟨by rw [HF.out, HE.out]; rfl, below_drewN HX.out q⟩
  · have h1 : (W == W2) = false := by simpa using hW
    have HE := Lib.hid (show sameG (W, rows) (W2, rows2) = false by rw [HF.out, h1]; rfl)
    clear HF hW HK
    go_enter Try.func51, Try.ntmps51
    go_wp2
    go_ret
    exact ⟨by rw [HE.out]; rfl, HX.out⟩
set_option maxHeartbeats 1600000 in
theorem spec_isGen (w : World) {l h : Nat} {v : Value} {b : Bs} (s : BasisI w l h v b) : Calls Try.prog 30 #[v] w (Says (.bool (isGen b)) w) := by
  obtain ⟨W, rows⟩ := b
  obtain ⟨u, rfl, hw, ad, n, cap, rfl, s⟩ := s
  dsimp only at hw
  have hbig := s.big
  have hcap := s.le
  unfold maxLen at hbig
  have hB := Blk.new w (.int .i64 W) (.slice ad n cap) 34
  have hb := below_box w (.cells #[.int .i64 W, .slice ad n cap] 34)
  have HF := Lib.hid (show isGen (W, rows) = ((((decide (0 ≤ W) && decide (W ≤ 1000000000000)) && (decide ((1 : Int) ≤ n) && decide ((n : Int) ≤ 8))) && isMat rows) && (decide ((1 : Int) ≤ colsOf rows) && decide ((colsOf rows : Int) ≤ 16))) by
    unfold isGen
    have e1 : decide (1 ≤ rows.length) = decide ((1 : Int) ≤ n) := by rw [s.len]; apply decide_eq_decide.2; omega
    have e2 : decide (rows.length ≤ 8) = decide ((n : Int) ≤ 8) := by rw [s.len]; apply decide_eq_decide.2; omega
    have e3 : decide (1 ≤ colsOf rows) = decide ((1 : Int) ≤ colsOf rows) := by apply decide_eq_decide.2; omega
    have e4 : decide (colsOf rows ≤ 16) = decide ((colsOf rows : Int) ≤ 16) := by apply decide_eq_decide.2; omega
    dsimp only
    rw [e1, e2, e3, e4])
  have H1 := Lib.hid (fun w' : World => l1In_is w' W 0 1000000000000)
  have H2 := Lib.hid (fun w' : World => l1In_is w' n 1 8)
  have H3 := Lib.hid (fun (w' : World) (t : Sls w' l h ad n cap rows) => spec_isMat w' t)
  have H4 := Lib.hid (fun (w' : World) (t : Sls w' l h ad n cap rows) => spec_cols w' t)
  have H5 := Lib.hid (fun w' : World => l1In_is w' (colsOf rows) 1 16)
  have hS := s.below hb (.inr (Nat.le_refl _))
  have HS := Lib.hid hS
  have c0 := hB.c0
  have c1 := hB.c1
  have HB := Lib.hid hb
  clear s hB hb hS
  generalize (decide (0 ≤ W) && decide (W ≤ 1000000000000)) = B1 at *
  generalize (decide ((1 : Int) ≤ n) && decide ((n : Int) ≤ 8)) = B2 at *
  generalize isMat rows = B3 at *
  generalize (decide ((1 : Int) ≤ colsOf rows) && decide ((colsOf rows : Int) ≤ 16)) = B4 at *
  generalize colsOf rows = C at *
  generalize isGen (W, rows) = R at *
  obtain rfl := HF.out
  clear HF
  cases B1
  · go_enter Try.func30, Try.ntmps30
    go_wp2_with fail
    go_at_call 57
    refine (H1.out _).mono ?_
    rintro e w1 ⟨rfl, rfl⟩
    go_wp2
    go_ret
    exact ⟨by simp, HB.out⟩
  cases B2
  · go_enter Try.func30, Try.ntmps30
    go_wp2_with fail
    go_at_call 57
    refine (H1.out _).mono ?_
    rintro e w1 ⟨rfl, rfl⟩
    go_wp2_with fail
    go_at_call 57
    refine (H2.out _).mono ?_
    rintro e w1 ⟨rfl, rfl⟩
    go_wp2
    go_ret
    exact ⟨by simp, HB.out⟩
  cases B3
  · go_enter Try.func30, Try.ntmps30
    go_wp2_with fail
    go_at_call 57
    refine (H1.out _).mono ?_
    rintro e w1 ⟨rfl, rfl⟩
    go_wp2_with fail
    go_at_call 57
    refine (H2.out _).mono ?_
    rintro e w1 ⟨rfl, rfl⟩
    go_wp2_with fail
    go_at_call 74
    refine (H3.out _ HS.out).mono ?_
    rintro e w1 ⟨rfl, q, rfl⟩
    go_wp2
    go_ret
    exact ⟨by simp, below_drewN HB.out q⟩
  go_enter Try.func30, Try.ntmps30
  go_wp2_with fail
  go_at_call 57
  refine (H1.out _).mono ?_
  rintro e w1 ⟨rfl, rfl⟩
  go_wp2_with fail
  go_at_call 57
  refine (H2.out _).mono ?_
  rintro e w1 ⟨rfl, rfl⟩
  go_wp2_with fail
  go_at_call 74
  refine (H3.out _ HS.out).mono ?_
  rintro e w1 ⟨rfl, q, rfl⟩
  have e0 : ((w.alloc (.cells #[.int .i64 W, .slice ad n cap] 34)).drewN q).cell? ⟨w.heap.size, 1, none⟩ = some (.slice ad n cap) := c1
  go_wp2_with fail
  go_at_call 28
  refine (H4.out _ (HS.out.drewN q)).mono ?_
  rintro e w1 ⟨rfl, rfl⟩
  go_wp2_with fail
  go_at_call 57
  refine (H5.out _).mono ?_
  rintro e w1 ⟨rfl, rfl⟩
  go_wp2
  go_ret
  exact ⟨by simp, below_drewN HB.out q⟩
end Go.Proofs.Ytkppkbafoeblhaa.GenW
namespace Go.Proofs.Ytkppkbafoeblhaa.Gen
open Go.RowKit
open Go.Proofs.Ytkppkbafoeblhaa.Seq Go.Proofs.Ytkppkbafoeblhaa.Help Go.Proofs.Ytkppkbafoeblhaa.Field Go.Proofs.Ytkppkbafoeblhaa.Vec Go.Proofs.Ytkppkbafoeblhaa.Mat Go.Proofs.Ytkppkbafoeblhaa.Uv Go.Proofs.Ytkppkbafoeblhaa.Rd Go.Proofs.Ytkppkbafoeblhaa.UvR
theorem flat_len : ∀ {m : List (List Int)}, (∀ xs ∈ m, xs.length ≤ 1048576) → m.flatten.length ≤ m.length * 1048576
  | [], _ => by simp
  | x :: m, h => by
    have h1 := flat_len (m := m) fun xs hx => h xs (List.mem_cons_of_mem _ hx)
    have h2 := h x List.mem_cons_self
    rw [List.flatten_cons, List.length_append, List.length_cons, Nat.succ_mul]
    omega
theorem flat_small {m : List (List Int)} (h : Small m) : m.flatten.length ≤ 1099511627776 := by
  have h1 := flat_len h.each
  have h2 := Nat.mul_le_mul_right 1048576 h.len
  omega
theorem cols_small {m : List (List Int)} (h : Small m) : colsOf m ≤ 1048576 := by
  cases m with
  | nil => exact Nat.zero_le _
  | cons x r => exact h.each x List.mem_cons_self
theorem flat_more {m : List (List Int)} {j : Nat} {ys : List Int} (h : m[j]? = some ys) : (m.take (j + 1)).flatten = (m.take j).flatten ++ ys := by
  rw [take_more h, List.flatten_append, List.flatten_singleton]
theorem flat_pre {m : List (List Int)} {j : Nat} {ys : List Int} (h : m[j]? = some ys) (k : Nat) : ((m.take j).flatten ++ ys.take k).length ≤ m.flatten.length := by
  have e : m.flatten = (m.take (j + 1)).flatten ++ (m.drop (j + 1)).flatten := by rw [← List.flatten_append, List.take_append_drop]
  rw [e, flat_more h]
  simp only [List.length_append, List.length_take]
  omega
theorem toData_1 {m : List (List Int)} {j k : Nat} {ys : List Int} {x : Int} (hj : m[j]? = some ys) (hk : ys[k]? = some x) (h : isByte x = false) : toData m = ([], false) := by
  have : m.flatten.all isByte = false := List.all_eq_false.2 ⟨x, List.mem_flatten.2 ⟨ys, List.mem_of_getElem? hj, List.mem_of_getElem? hk⟩, by rw [h]; simp⟩
  unfold toData; rw [this]; rfl
theorem toData_2 {m : List (List Int)} (h1 : m.flatten.all isByte = true) (h2 : ((rdv m.flatten 0).2.2 && decide ((rdv m.flatten 0).1 ≤ m.flatten.length - (rdv m.flatten 0).2.1)) = false) : toData m = ([], false) := by
  unfold toData; rw [h1, h2]; rfl
theorem toData_3 {m : List (List Int)} {a b : Nat} (h1 : m.flatten.all isByte = true) (h2 : rdv m.flatten 0 = ((a : Int), (b : Int), true)) (h3 : b + a ≤ m.flatten.length) :
    toData m = bif MatW.sameM (toSym ((m.flatten.drop b).take a) (colsOf m)) m then ((m.flatten.drop b).take a, true) else ([], false) := by
  unfold toData
  have : decide ((a : Int) ≤ m.flatten.length - (b : Int)) = true := decide_eq_true (by omega)
  rw [h1, h2]
  simp only [this, Bool.true_and, cond_true, Int.toNat_natCast]
  rfl
theorem toSym_rows {d : List Int} {W : Int} : ∀ r ∈ toSym d W, r.length ≤ 17592186044416 := by
  intro r hr
  cases h : symOk W d.length
  · rw [toSym_no h] at hr; cases hr
  · obtain ⟨⟨h1, h2⟩, h3⟩ := symOk_iff.1 h
    rw [toSym_ok h] at hr
    have := sym_row hr
    omega
end Go.Proofs.Ytkppkbafoeblhaa.Gen
namespace Go.Proofs.Ytkppkbafoeblhaa.GenW
open Go.ChangeShapes Go.WideShapes Go.ChangeAt Go.RowKit
open Go.Proofs.Ytkppkbafoeblhaa.Seq Go.Proofs.Ytkppkbafoeblhaa.Help Go.Proofs.Ytkppkbafoeblhaa.Field Go.Proofs.Ytkppkbafoeblhaa.FieldW Go.Proofs.Ytkppkbafoeblhaa.Vec Go.Proofs.Ytkppkbafoeblhaa.VecW Go.Proofs.Ytkppkbafoeblhaa.Mat Go.Proofs.Ytkppkbafoeblhaa.MatW Go.Proofs.Ytkppkbafoeblhaa.Uv Go.Proofs.Ytkppkbafoeblhaa.UvW Go.Proofs.Ytkppkbafoeblhaa.Rd Go.Proofs.Ytkppkbafoeblhaa.RdW Go.Proofs.Ytkppkbafoeblhaa.UvR Go.Proofs.Ytkppkbafoeblhaa.Shape Go.Proofs.Ytkppkbafoeblhaa.Gen
set_option maxRecDepth 100000 in
set_option maxHeartbeats 3200000 in
theorem spec_toData (w : World) {l h : Nat} {ad : Option Addr} {n cap : Nat} {m : List (List Int)} (s : Sls w l h ad n cap m) (hf : Small m) :
    Calls Try.prog 26 #[.slice ad n cap] w (GivesT .u8 5 (toData m).1 [.bool (toData m).2] w) := by
  have hL := Lib.hid s.len
  have hcap := s.le
  have hbig := s.big
  unfold maxLen at hbig
  have hn : n ≤ 1048576 := by rw [← s.len]; exact hf.len
  have HF := Lib.hid hf
  have HS := Lib.hid s
  obtain ⟨R, hR⟩ : ∃ R, R = toData m := ⟨_, rfl⟩
  rw [← hR]
  have HR := Lib.hid hR
  clear s hf hR
  have HI := Lib.hid (fun (w' : World) x => l1In_is w' x 0 255)
  go_enter Try.func26, Try.ntmps26
  have hb0 : Below w.heap.size w (w.alloc (.cells #[] 5)) := (Below.refl _ _).alloc (Nat.le_refl _) _
  go_wp2
  go_loopw [4, 5] (fun o i wr => ∃ (j N : Nat) (ad' : Option Addr) (cap' : Nat), j ≤ n ∧ i = .int .i64 j ∧ o = .slice ad' N cap' ∧ Row wr w.heap.size wr.heap.size .u8 5 ad' N cap' (m.take j).flatten ∧ Below w.heap.size w wr ∧
    Hid (∀ x ∈ (m.take j).flatten, isByte x = true)) (fun _ i _ => n - (intOf i).toNat)
  case atStart => exact ⟨0, 0, _, _, Nat.zero_le _, rfl, rfl, by simpa using Row.nil _ _ _ _ _ _, hb0, by simp [Hid]⟩
  case round =>
    obtain ⟨j, N, ad', cap', hj, rfl, rfl, hr, hb, HA⟩ := hrel
    have zb := hb.size
    by_cases hlt : j < n
    · obtain ⟨a1, ad3, n3, cap3, ys, e1, hx, hcl⟩ := HS.out.at_ hlt
      have hn3 : n3 ≤ 1048576 := by rw [← hx.sl.len]; exact HF.out.each _ (List.mem_of_getElem? hx.get)
      have HX := Lib.hid hx
      have L3 := hx.sl.le
      have G3 := hx.sl.big
      unfold maxLen at G3
      subst e1
      clear hx
      go_wp2
      go_loopw [4, 6] (fun o i w2 => ∃ (k N : Nat) (ad' : Option Addr) (cap' : Nat), k ≤ n3 ∧ i = .int .i64 k ∧ o = .slice ad' N cap' ∧ Row w2 w.heap.size w2.heap.size .u8 5 ad' N cap' ((m.take j).flatten ++ ys.take k) ∧ Below w.heap.size w w2 ∧
        Hid (∀ x ∈ ys.take k, isByte x = true)) (fun _ i _ => n3 - (intOf i).toNat)
      case atStart => exact ⟨0, N, _, _, Nat.zero_le _, rfl, rfl, by simpa using hr, hb, by simp [Hid]⟩
      case round =>
        obtain ⟨k, N2, ad2, cap2, hk, rfl, rfl, r2, b2, HA2⟩ := hrel
        have z2 := b2.size
        have hcl2 := (b2.cell (World.block_lt_of_cell? _ _ hcl)).trans hcl
        have hN2 : N2 ≤ 1099511627776 := by
          rw [← r2.len]
          exact Nat.le_trans (flat_pre HX.out.get k) (flat_small HF.out)
        by_cases hlk : k < n3
        · obtain ⟨a2, x, e2, hy, hcy⟩ := (HX.out.sl.below b2 (.inr (Nat.le_refl _))).at_ hlk
          have hxb := fits_i64.1 hy.fits
          have HY := Lib.hid hy.get
          subst e2
          clear hy
          cases hB : isByte x
          · have HE := Lib.hid (toData_1 HX.out.get HY.out hB)
            have HI2 := HI.out wr x
            rw [show (decide (0 ≤ x) && decide (x ≤ 255)) = false from hB] at HI2
            have HI3 := Lib.hid HI2
            clear HI2
            go_wp2_with fail
            go_at_call 57
            refine HI3.out.mono ?_
            rintro e w' ⟨rfl, rfl⟩
            go_wp2
            go_ret2
            exact ⟨some ⟨wr.heap.size, 0, none⟩, 0, 0, by rw [HR.out, HE.out]; rfl, by rw [HR.out, HE.out]; exact Row.nil _ _ _ _ _ _, b2.alloc (by omega) _⟩
          · have HI2 := HI.out wr x
            rw [show (decide (0 ≤ x) && decide (x ≤ 255)) = true from hB] at HI2
            have HI3 := Lib.hid HI2
            have hB2 : 0 ≤ x ∧ x ≤ 255 := by simpa [isByte] using hB
            have HA3 := Lib.hid (show ∀ y ∈ ys.take (k + 1), isByte y = true by
              intro y hy
              rw [take_more HY.out] at hy
              rcases List.mem_append.1 hy with h | h
              · exact HA2.out y h
              · obtain rfl := List.mem_singleton.1 h; exact hB)
            have HT := Lib.hid (show (m.take j).flatten ++ ys.take (k + 1) = ((m.take j).flatten ++ ys.take k) ++ [x] by rw [take_more HY.out, List.append_assoc])
            clear HI2 hB
            go_wp2_with fail
            go_at_call 57
            refine HI3.out.mono ?_
            rintro e w' ⟨rfl, rfl⟩
            go_wp2_with (at_builtin; refine wpList_app (r2.alloc _) (one wr .u8 5 x (fits_u8.2 (by omega))) Try.underlying22 info_uint8 (by unfold maxLen; omega) (by omega) (by simp; omega) rfl _ _ rfl rfl rfl ?_; intro ad5 cap5 w5 hr5 hm5)
            have hb5 := (b2.alloc z2 (.cells #[.int .u8 x] 5)).trans (hm5.below (Nat.le_refl _) (by simp; omega))
            go_roundw
            case rel => exact ⟨k + 1, _, _, _, by omega, by go_num, rfl, HT.out ▸ hr5, hb5, HA3.out⟩
            case measure => simp [intOf]; omega
        · obtain rfl : k = n3 := by omega
          have hys := HX.out.sl.len
          rw [List.take_of_length_le (Nat.le_of_eq hys), ← flat_more HX.out.get] at r2
          have HA3 := Lib.hid (show ∀ x ∈ (m.take (j + 1)).flatten, isByte x = true by
            intro x hx
            rw [flat_more HX.out.get] at hx
            rcases List.mem_append.1 hx with h | h
            · exact HA.out x h
            · exact HA2.out x (by rw [List.take_of_length_le (Nat.le_of_eq hys)]; exact h))
          go_wp2
          go_roundw
          case rel => exact ⟨j + 1, _, _, _, by omega, by go_num, rfl, r2, b2, HA3.out⟩
          case measure => simp [intOf]; omega
    · obtain rfl : j = n := by omega
      rw [List.take_of_length_le (Nat.le_of_eq hL.out)] at hr
      have HA1 := Lib.hid (show m.flatten.all isByte = true from List.all_eq_true.2 (by have := HA.out; rwa [List.take_of_length_le (Nat.le_of_eq hL.out)] at this))
      have hN : N ≤ 1099511627776 := by rw [← hr.len]; exact flat_small HF.out
      have KR := Lib.hid (spec_read wr hr.sl (by omega) 0 (by omega) (by omega))
      go_wp2_with fail
      go_at_call 71
      refine KR.out.mono ?_
      have hu := fun a b => uv_rdv (i := 0) (m := a) (q := b) hr.fits
      obtain ⟨⟨a, b, ok⟩, hRV⟩ : ∃ z, z = rdv m.flatten 0 := ⟨_, rfl⟩
      rw [← hRV] at hu ⊢
      have HRV := Lib.hid hRV.symm
      have HU := Lib.hid hu
      clear hRV hu KR
      rintro e w2 ⟨rfl, b2⟩
      dsimp only
      have zz := b2.size
      have hb2 := hb.trans (b2.mono zb)
      cases ok
      · have HE := Lib.hid (toData_2 HA1.out (by rw [HRV.out]; rfl))
        go_wp2
        go_ret2
        exact ⟨some ⟨w2.heap.size, 0, none⟩, 0, 0, by rw [HR.out, HE.out]; rfl, by rw [HR.out, HE.out]; exact Row.nil _ _ _ _ _ _, hb2.alloc (by omega) _⟩
      obtain ⟨p0, a', b', e0, rfl, rfl, ha, hb', hb3, -⟩ := HU.out a b rfl
      have hNl := hr.len
      have hr2 := hr.sl.below b2 (.inr (Nat.le_refl _))
      have hrB := Lib.hid hr2
      have hrle := hr2.le
      have hrbig := hr2.big
      unfold maxLen at hrbig
      clear e0 hr2 HU hr
      by_cases hfit : b' + a' ≤ N
      case neg =>
        have HE := Lib.hid (toData_2 HA1.out (by rw [HRV.out]; show (true && decide ((a' : Int) ≤ m.flatten.length - (b' : Int))) = false; rw [Bool.true_and]; exact decide_eq_false (by omega)))
        go_wp2
        go_ret2
        exact ⟨some ⟨w2.heap.size, 0, none⟩, 0, 0, by rw [HR.out, HE.out]; rfl, by rw [HR.out, HE.out]; exact Row.nil _ _ _ _ _ _, hb2.alloc (by omega) _⟩
      have HE := Lib.hid (toData_3 HA1.out HRV.out (by omega))
      have he0 : b' + a' - b' = a' := by omega
      go_wp2_with (at_builtin; refine wpList_app (Row.nil _ w2.heap.size 0 .u8 5 _) ((hrB.out.alloc _).cut (i := b') (m := b' + a' - b') (c := cap' - b') (by omega) (by omega) (by omega)) Try.underlying22 info_uint8 (by unfold maxLen; omega) (by omega) (by simp) rfl _ _ rfl rfl rfl ?_; intro ad3 cap3 w3 hr3 hm3)
      all_goals
        simp only [Nat.zero_add, List.nil_append, he0] at hr3
        have hb4 : Below w2.heap.size w2 w3 := ((Below.refl _ w2).alloc (Nat.le_refl _) _).trans (hm3.below (Nat.le_refl _) (by simp))
        have hb5 := hb2.trans (hb4.mono (by omega))
        have z3 := hb4.size
        have hs3 := HS.out.below hb5 (.inr (Nat.le_refl _))
        have hc3 := cols_small HF.out
        have HR3 := Lib.hid (hr3.lo (l' := w.heap.size) (by omega))
        clear hr3 hm3 hb4
        refine (spec_cols w3 hs3).mono ?_
        rintro e w4 ⟨rfl, rfl⟩
        go_wp2_with fail
        go_at_call 33
        refine (spec_toSym w3 HR3.out.sl (colsOf m) (by omega) (by omega)).mono ?_
        rintro e w4 ⟨ad4, n4, cap4, us4, rfl, g4, b4⟩
        have hb6 := hb5.trans (b4.mono (by omega))
        have HR4 := Lib.hid (HR3.out.below b4 (.inr (Nat.le_refl _)))
        have z4 := b4.size
        have KQ := Lib.hid (spec_eqM w4 g4.sls (HS.out.below hb6 (.inr (Nat.le_refl _))) toSym_rows)
        clear hs3 g4 b4 hb5
        generalize sameM (toSym ((m.flatten.drop b').take a') (colsOf m)) m = B at *
        go_wp2_with fail
        go_at_call 72
        refine KQ.out.mono ?_
        rintro e w5 ⟨rfl, q, rfl⟩
        cases B
        · go_wp2
          go_ret2
          exact ⟨some ⟨w4.heap.size, 0, none⟩, 0, 0, by rw [HR.out, HE.out]; rfl, by rw [HR.out, HE.out]; exact Row.nil _ _ _ _ _ _, (below_drewN hb6 q).alloc (by show w.heap.size ≤ w4.heap.size; omega) _⟩
        · go_wp2
          go_ret2
          exact ⟨ad3, a', cap3, by rw [HR.out, HE.out]; rfl, by rw [HR.out, HE.out]; exact (HR4.out.lt).drewN q, below_drewN hb6 q⟩
end Go.Proofs.Ytkppkbafoeblhaa.GenW
namespace Go.Proofs.Ytkppkbafoeblhaa.Gen
open Go.Proofs.Ytkppkbafoeblhaa.Seq Go.Proofs.Ytkppkbafoeblhaa.Field Go.Proofs.Ytkppkbafoeblhaa.Vec Go.Proofs.Ytkppkbafoeblhaa.Mat
theorem chain_more {gs : List G2} {j : Nat} : chain gs (j + 1) = (chain gs j && (isGen (gs.getD j (0, [])) && (decide (j = 0) || decide ((gs.getD j (0, [])).1 = (gs.getD (j - 1) (0, [])).1 + 1)))) := by
  unfold chain
  rw [List.range_succ, List.all_append]
  simp
theorem join_bad {gs : List G2} {j : Nat} (h : chain gs j = false) (hj : j ≤ gs.length) : join gs = ([], false) := by
  have : chain gs gs.length = false := by
    cases e : chain gs gs.length
    · rfl
    · have h1 := chain_iff.1 e
      have h2 : chain gs j = true := chain_iff.2 fun i hi => h1 i (by omega)
      rw [h] at h2; cases h2
  unfold join; rw [this]; rfl
theorem join_ok {gs : List G2} (h : chain gs gs.length = true) : join gs = toData (gs.flatMap (·.2)) := by unfold join; rw [h]; rfl
theorem isGen_in {g : G2} (h : isGen g = true) : (0 ≤ g.1 ∧ g.1 ≤ 1000000000000) ∧ 1 ≤ g.2.length ∧ g.2.length ≤ 8 ∧ colsOf g.2 ≤ 16 ∧ isMat g.2 = true := by
  unfold isGen at h
  simp only [Bool.and_eq_true, decide_eq_true_eq] at h
  obtain ⟨⟨⟨⟨a, b⟩, c, d⟩, e⟩, f, k⟩ := h
  exact ⟨⟨a, b⟩, c, d, k, e⟩
theorem flat_take {gs : List G2} {j : Nat} {g : G2} (h : gs[j]? = some g) : (gs.take (j + 1)).flatMap (·.2) = (gs.take j).flatMap (·.2) ++ g.2 := by
  rw [take_more h, List.flatMap_append]; simp
theorem flat_le {gs : List G2} (j : Nat) : ((gs.take j).flatMap (·.2)).length ≤ (gs.flatMap (·.2)).length := by
  conv => rhs; rw [← List.take_append_drop j gs, List.flatMap_append, List.length_append]
  omega
end Go.Proofs.Ytkppkbafoeblhaa.Gen
namespace Go.Proofs.Ytkppkbafoeblhaa.GenW
open Go.ChangeShapes Go.WideShapes Go.ChangeAt Go.RowKit
open Go.Proofs.Ytkppkbafoeblhaa.Drawn Go.Proofs.Ytkppkbafoeblhaa.Seq Go.Proofs.Ytkppkbafoeblhaa.Help Go.Proofs.Ytkppkbafoeblhaa.Field Go.Proofs.Ytkppkbafoeblhaa.FieldW Go.Proofs.Ytkppkbafoeblhaa.Vec Go.Proofs.Ytkppkbafoeblhaa.VecW Go.Proofs.Ytkppkbafoeblhaa.Mat Go.Proofs.Ytkppkbafoeblhaa.MatW Go.Proofs.Ytkppkbafoeblhaa.RedW Go.Proofs.Ytkppkbafoeblhaa.Shape Go.Proofs.Ytkppkbafoeblhaa.Gen

theorem add_next (a : Addr) (k : Nat) : (⟨(a.add k).block, (a.add k).off + 1, none⟩ : Addr) = a.add (k + 1) := by
  unfold Addr.add
  by_cases h : k = 0
  · subst h; simp
  · simp [h]; omega
/-- A slice of generations that reads as gs. -/
structure Gens (w : World) (l h : Nat) (ad : Option Addr) (n cap : Nat) (gs : List G2) : Prop where
  len : gs.length = n
  le : n ≤ cap
  big : cap ≤ maxLen
  nil : ad = none → cap = 0
  cells : ∀ j g, gs[j]? = some g → ∃ a u, ad = some a ∧ l ≤ a.block ∧ a.block < h ∧ w.cell? (a.add (j * 2)) = some (.int .i64 g.1) ∧ w.cell? (a.add (j * 2 + 1)) = some u ∧ (-9223372036854775808 ≤ g.1 ∧ g.1 ≤ 9223372036854775807) ∧ IntSSI w l h u g.2
section
variable {w w' : World} {l h l' h' : Nat} {ad : Option Addr} {n cap : Nat} {gs : List G2}
theorem Gens.keep (s : Gens w l h ad n cap gs) (hk : ∀ p : Addr, l ≤ p.block → p.block < h → ∀ u, w.cell? p = some u → w'.cell? p = some u) (hs : ∀ u x, IntSSI w l h u x → IntSSI w' l h u x) : Gens w' l h ad n cap gs :=
  ⟨s.len, s.le, s.big, s.nil, fun j x hx => by
    obtain ⟨a, u, e, h1, h2, h3, h4, h5, h6⟩ := s.cells j x hx
    exact ⟨a, u, e, h1, h2, hk _ (by rw [add_block]; exact h1) (by rw [add_block]; exact h2) _ h3, hk _ (by rw [add_block]; exact h1) (by rw [add_block]; exact h2) _ h4, h5, hs _ _ h6⟩⟩
theorem Gens.mv (s : Gens w l h ad n cap gs) (m : Mv w w' l' h') (hd : h ≤ l' ∨ h' ≤ l) : Gens w' l h ad n cap gs :=
  s.keep (fun p h1 h2 u hu => (World.cell?_of_block (m.block p.block (World.block_lt_of_cell? w p hu) (by omega))).trans hu) fun _ _ t => IntSSI_mv t m hd
theorem Gens.below {B : Nat} (s : Gens w l h ad n cap gs) (m : Below B w w') (hB : h ≤ B ∨ w.heap.size ≤ B) : Gens w' l h ad n cap gs :=
  s.keep (fun p h1 h2 u hu => (m.cell (by have := World.block_lt_of_cell? w p hu; omega)).trans hu) fun _ _ t => IntSSI_below t m hB
theorem Gens.at_ (s : Gens w l h ad n cap gs) {j : Nat} (hj : j < n) : ∃ a ad' n' cap' g, ad = some a ∧ gs[j]? = some g ∧ w.cell? (a.add (j * 2)) = some (.int .i64 g.1) ∧ w.cell? ⟨(a.add (j * 2)).block, (a.add (j * 2)).off + 1, none⟩ = some (.slice ad' n' cap') ∧ (-9223372036854775808 ≤ g.1 ∧ g.1 ≤ 9223372036854775807) ∧ Sls w l h ad' n' cap' g.2 := by
  have hl : j < gs.length := by rw [s.len]; exact hj
  obtain ⟨a, u, e, h1, h2, h3, h4, h5, ad', n', cap', rfl, h6⟩ := s.cells j gs[j] (List.getElem?_eq_getElem hl)
  exact ⟨a, ad', n', cap', gs[j], e, List.getElem?_eq_getElem hl, h3, by rw [add_next]; exact h4, h5, h6⟩
end
end Go.Proofs.Ytkppkbafoeblhaa.GenW
namespace Go.Proofs.Ytkppkbafoeblhaa.GenW
open Go.ChangeShapes Go.WideShapes Go.ChangeAt Go.RowKit
open Go.Proofs.Ytkppkbafoeblhaa.Drawn Go.Proofs.Ytkppkbafoeblhaa.Seq Go.Proofs.Ytkppkbafoeblhaa.Help Go.Proofs.Ytkppkbafoeblhaa.Field Go.Proofs.Ytkppkbafoeblhaa.FieldW Go.Proofs.Ytkppkbafoeblhaa.Vec Go.Proofs.Ytkppkbafoeblhaa.VecW Go.Proofs.Ytkppkbafoeblhaa.Mat Go.Proofs.Ytkppkbafoeblhaa.MatW Go.Proofs.Ytkppkbafoeblhaa.RedW Go.Proofs.Ytkppkbafoeblhaa.Shape Go.Proofs.Ytkppkbafoeblhaa.Gen
set_option maxRecDepth 100000 in
set_option maxHeartbeats 25600000 in
theorem spec_join (w : World) {l h : Nat} {ad : Option Addr} {n cap : Nat} {gs : List G2} (s : Gens w l h ad n cap gs) (hn : n ≤ 1048576) (hf : Small (gs.flatMap (·.2))) :
    Calls Try.prog 47 #[.slice ad n cap] w (GivesT .u8 5 (join gs).1 [.bool (join gs).2] w) := by
  have hL := Lib.hid s.len
  have hcap := s.le
  have hbig := s.big
  unfold maxLen at hbig
  have HS := Lib.hid s
  have HF := Lib.hid hf
  obtain ⟨R, hR⟩ : ∃ R, R = join gs := ⟨_, rfl⟩
  rw [← hR]
  have HR := Lib.hid hR
  clear s hR hf
  go_enter Try.func47, Try.ntmps47
  have hb0 : Below w.heap.size w (w.alloc (.cells #[] 43)) := (Below.refl _ _).alloc (Nat.le_refl _) _
  go_wp2
  go_loopw [4, 5] (fun o i wr => ∃ (j N : Nat) (ad' : Option Addr) (cap' : Nat) (us : List Value), j ≤ n ∧ N ≤ 1048576 ∧ i = .int .i64 j ∧ o = .slice ad' N cap' ∧ Loose wr w.heap.size wr.heap.size 3 43 ad' N cap' us ((gs.take j).flatMap (·.2)) ∧ Below w.heap.size w wr ∧
    Hid (chain gs j = true)) (fun _ i _ => n - (intOf i).toNat)
  case atStart => exact ⟨0, 0, _, _, [], Nat.zero_le _, Nat.zero_le _, rfl, rfl, by simpa using Loose.nil _ _ _ _ _ _, hb0, rfl⟩
  case round =>
    obtain ⟨j, N, ad', cap', us, hj, hN, rfl, rfl, hr, hb, HA⟩ := hrel
    have zb := hb.size
    by_cases hlt : j < n
    · have hbD := hb.drew
      have hrD : Loose wr.drew w.heap.size wr.drew.heap.size 3 43 ad' N cap' us ((gs.take j).flatMap (·.2)) := hr.mv (Mv.drew (Mv.refl wr 0 0)) (.inr (Nat.zero_le _))
      obtain ⟨a1, ad3, n3, cap3, g, e1, hg, hc0, hc1, hg1, hs3⟩ := (HS.out.below hbD (.inr (Nat.le_refl _))).at_ hlt
      have HG := Lib.hid hg
      have hD : gs.getD j (0, []) = g := by rw [List.getD_eq_getElem?_getD, hg]; rfl
      have zD : w.heap.size ≤ wr.drew.heap.size := hbD.size
      subst e1
      clear hr hb hg
      have hs3l := hs3.len
      have hNl := hrD.len
      cases hv : isGen g
      · have HE := Lib.hid (join_bad (gs := gs) (j := j + 1) (by rw [chain_more, hD, hv]; simp) (by rw [hL.out]; omega))
        go_wp2
        refine wp_region_held (S := fun w' => w'.cell? (a1.add (j * 2)) = some (.int .i64 g.1) ∧ w'.cell? ⟨(a1.add (j * 2)).block, (a1.add (j * 2)).off + 1, none⟩ = some (.slice ad3 n3 cap3)) (by kernel_rfl) ?_
        change wpAnyH _ _ _ _ _ _ _ _ wr.drew
        generalize wr.drew = D at *
        have HH := Lib.hid (show D.cell? (a1.add (j * 2)) = some (.int .i64 g.1) ∧ D.cell? ⟨(a1.add (j * 2)).block, (a1.add (j * 2)).off + 1, none⟩ = some (.slice ad3 n3 cap3) from And.intro hc0 hc1)
        have KG := Lib.hid (spec_isGen D (b := g) ⟨_, rfl, hg1, _, _, _, rfl, hs3⟩)
        rw [hv] at KG
        refine wpAnyH_take (i := 0) (oi := ⟨some _, _, _, _, _, _⟩) (v := ?_) rfl (by kernel_rfl) (by kernel_rfl) (by kernel_rfl) (fun _ _ _ h => h) (Or.inl ⟨by rfl, ?_⟩) HH.out ?_
        rotate_left
        · intro wS hSw
          try dsimp only at hSw
          go_simp
          all_goals (with_reducible rfl)
        simp only [Act.put, List.setIfInBounds_toArray, List.set_cons_zero, List.set_cons_succ]
        refine wpAnyH_take (i := 1) (oi := ⟨some _, _, _, _, _, _⟩) (v := ?_) rfl (by kernel_rfl) (by kernel_rfl) (by kernel_rfl) (fun _ _ _ h => h) (Or.inl ⟨by rfl, ?_⟩) HH.out ?_
        rotate_left
        · intro wS hSw
          try dsimp only at hSw
          go_simp
          all_goals (with_reducible rfl)
        simp only [Act.put, List.setIfInBounds_toArray, List.set_cons_zero, List.set_cons_succ]
        refine wpAnyH_take (i := 2) (oi := ⟨some _, _, _, _, _, _⟩) (v := ?_) rfl (by kernel_rfl) (by kernel_rfl) (by kernel_rfl) (fun _ _ _ h => h) (Or.inl ⟨by rfl, ?_⟩) HH.out ?_
        rotate_left
        · intro wS hSw
          try dsimp only at hSw
          go_simp
          all_goals (with_reducible rfl)
        simp only [Act.put, List.setIfInBounds_toArray, List.set_cons_zero, List.set_cons_succ]
        refine wpAnyH_take (i := 3) (oi := ⟨some _, _, _, _, _, _⟩) (v := ?_) rfl (by kernel_rfl) (by kernel_rfl) (by kernel_rfl) (fun _ _ _ h => h) (Or.inl ⟨by rfl, ?_⟩) HH.out ?_
        rotate_left
        · intro wS hSw
          try dsimp only at hSw
          go_simp
          all_goals (with_reducible rfl)
        simp only [Act.put, List.setIfInBounds_toArray, List.set_cons_zero, List.set_cons_succ]
        refine wpAnyH_ready (rs := [4]) (by kernel_rfl) (by simp) ?_
        refine AllReadyH.cons (o := ⟨some _, _, _, _, _, _⟩) rfl (fun Kq hKq => ?_) AllReadyH.nil
        go_simp
        refine KG.out.mono ?_
        rintro e y1 ⟨rfl, bl⟩
        replace hc0 := (bl.cell (World.block_lt_of_cell? _ _ hc0)).trans hc0
        replace hc1 := (bl.cell (World.block_lt_of_cell? _ _ hc1)).trans hc1
        replace hs3 := hs3.below bl (.inr (Nat.le_refl _))
        replace hrD := hrD.below bl (.inr (Nat.le_refl _))
        have hbY := Lib.hid (hbD.trans (bl.mono zD))
        have zY := bl.size
        clear HH bl
        have HH := Lib.hid (show y1.cell? (a1.add (j * 2)) = some (.int .i64 g.1) ∧ y1.cell? ⟨(a1.add (j * 2)).block, (a1.add (j * 2)).off + 1, none⟩ = some (.slice ad3 n3 cap3) from And.intro hc0 hc1)
        refine hKq.out _ _ HH.out (fun _ => ?_)
        clear hKq Kq
        refine wpAnyH_take (i := 5) (oi := ⟨some _, _, _, _, _, _⟩) (v := ?_) rfl (by kernel_rfl) (by kernel_rfl) (by kernel_rfl) (fun _ _ _ h => h) (Or.inl ⟨by rfl, ?_⟩) HH.out ?_
        rotate_left
        · intro wS hSw
          try dsimp only at hSw
          go_simp
          all_goals (with_reducible rfl)
        simp only [Act.put, List.setIfInBounds_toArray, List.set_cons_zero, List.set_cons_succ]
        refine wpAnyH_take (i := 6) (oi := ⟨some _, _, _, _, _, _⟩) (v := ?_) rfl (by kernel_rfl) (by kernel_rfl) (by kernel_rfl) (fun _ _ _ h => h) (Or.inl ⟨by rfl, ?_⟩) HH.out ?_
        rotate_left
        · intro wS hSw
          try dsimp only at hSw
          go_simp
          all_goals (with_reducible rfl)
        simp only [Act.put, List.setIfInBounds_toArray, List.set_cons_zero, List.set_cons_succ]
        refine wpAnyH_take (i := 7) (oi := ⟨some _, _, _, _, _, _⟩) (v := undef) rfl (by kernel_rfl) (by kernel_rfl) (by kernel_rfl) (fun _ _ _ h => h) (Or.inr ⟨by rfl, rfl⟩) HH.out ?_
        simp only [Act.put, List.setIfInBounds_toArray, List.set_cons_zero, List.set_cons_succ]
        refine wpAnyH_take (i := 8) (oi := ⟨some _, _, _, _, _, _⟩) (v := undef) rfl (by kernel_rfl) (by kernel_rfl) (by kernel_rfl) (fun _ _ _ h => h) (Or.inr ⟨by rfl, rfl⟩) HH.out ?_
        simp only [Act.put, List.setIfInBounds_toArray, List.set_cons_zero, List.set_cons_succ]
        refine wpAnyH_take (i := 9) (oi := ⟨some _, _, _, _, _, _⟩) (v := undef) rfl (by kernel_rfl) (by kernel_rfl) (by kernel_rfl) (fun _ _ _ h => h) (Or.inr ⟨by rfl, rfl⟩) HH.out ?_
        simp only [Act.put, List.setIfInBounds_toArray, List.set_cons_zero, List.set_cons_succ]
        refine wpAnyH_take (i := 10) (oi := ⟨some _, _, _, _, _, _⟩) (v := undef) rfl (by kernel_rfl) (by kernel_rfl) (by kernel_rfl) (fun _ _ _ h => h) (Or.inr ⟨by rfl, rfl⟩) HH.out ?_
        simp only [Act.put, List.setIfInBounds_toArray, List.set_cons_zero, List.set_cons_succ]
        refine wpAnyH_take (i := 11) (oi := ⟨some _, _, _, _, _, _⟩) (v := undef) rfl (by kernel_rfl) (by kernel_rfl) (by kernel_rfl) (fun _ _ _ h => h) (Or.inr ⟨by rfl, rfl⟩) HH.out ?_
        simp only [Act.put, List.setIfInBounds_toArray, List.set_cons_zero, List.set_cons_succ]
        refine wpAnyH_take (i := 12) (oi := ⟨some _, _, _, _, _, _⟩) (v := undef) rfl (by kernel_rfl) (by kernel_rfl) (by kernel_rfl) (fun _ _ _ h => h) (Or.inr ⟨by rfl, rfl⟩) HH.out ?_
        simp only [Act.put, List.setIfInBounds_toArray, List.set_cons_zero, List.set_cons_succ]
        refine wpAnyH_take (i := 13) (oi := ⟨some _, _, _, _, _, _⟩) (v := undef) rfl (by kernel_rfl) (by kernel_rfl) (by kernel_rfl) (fun _ _ _ h => h) (Or.inr ⟨by rfl, rfl⟩) HH.out ?_
        simp only [Act.put, List.setIfInBounds_toArray, List.set_cons_zero, List.set_cons_succ]
        refine wpAnyH_take (i := 14) (oi := ⟨some _, _, _, _, _, _⟩) (v := undef) rfl (by kernel_rfl) (by kernel_rfl) (by kernel_rfl) (fun _ _ _ h => h) (Or.inr ⟨by rfl, rfl⟩) HH.out ?_
        simp only [Act.put, List.setIfInBounds_toArray, List.set_cons_zero, List.set_cons_succ]
        refine wpAnyH_take (i := 15) (oi := ⟨some _, _, _, _, _, _⟩) (v := undef) rfl (by kernel_rfl) (by kernel_rfl) (by kernel_rfl) (fun _ _ _ h => h) (Or.inr ⟨by rfl, rfl⟩) HH.out ?_
        simp only [Act.put, List.setIfInBounds_toArray, List.set_cons_zero, List.set_cons_succ]
        refine wpAnyH_take (i := 16) (oi := ⟨some _, _, _, _, _, _⟩) (v := undef) rfl (by kernel_rfl) (by kernel_rfl) (by kernel_rfl) (fun _ _ _ h => h) (Or.inr ⟨by rfl, rfl⟩) HH.out ?_
        simp only [Act.put, List.setIfInBounds_toArray, List.set_cons_zero, List.set_cons_succ]
        refine wpAnyH_take (i := 17) (oi := ⟨some _, _, _, _, _, _⟩) (v := undef) rfl (by kernel_rfl) (by kernel_rfl) (by kernel_rfl) (fun _ _ _ h => h) (Or.inr ⟨by rfl, rfl⟩) HH.out ?_
        simp only [Act.put, List.setIfInBounds_toArray, List.set_cons_zero, List.set_cons_succ]
        refine wpAnyH_take (i := 18) (oi := ⟨some _, _, _, _, _, _⟩) (v := undef) rfl (by kernel_rfl) (by kernel_rfl) (by kernel_rfl) (fun _ _ _ h => h) (Or.inr ⟨by rfl, rfl⟩) HH.out ?_
        simp only [Act.put, List.setIfInBounds_toArray, List.set_cons_zero, List.set_cons_succ]
        refine wpAnyH_take (i := 19) (oi := ⟨some _, _, _, _, _, _⟩) (v := undef) rfl (by kernel_rfl) (by kernel_rfl) (by kernel_rfl) (fun _ _ _ h => h) (Or.inr ⟨by rfl, rfl⟩) HH.out ?_
        simp only [Act.put, List.setIfInBounds_toArray, List.set_cons_zero, List.set_cons_succ]
        refine wpAnyH_take (i := 20) (oi := ⟨some _, _, _, _, _, _⟩) (v := undef) rfl (by kernel_rfl) (by kernel_rfl) (by kernel_rfl) (fun _ _ _ h => h) (Or.inr ⟨by rfl, rfl⟩) HH.out ?_
        simp only [Act.put, List.setIfInBounds_toArray, List.set_cons_zero, List.set_cons_succ]
        refine wpAnyH_take (i := 21) (oi := ⟨some _, _, _, _, _, _⟩) (v := undef) rfl (by kernel_rfl) (by kernel_rfl) (by kernel_rfl) (fun _ _ _ h => h) (Or.inr ⟨by rfl, rfl⟩) HH.out ?_
        simp only [Act.put, List.setIfInBounds_toArray, List.set_cons_zero, List.set_cons_succ]
        refine wpAnyH_take (i := 22) (oi := ⟨some _, _, _, _, _, _⟩) (v := undef) rfl (by kernel_rfl) (by kernel_rfl) (by kernel_rfl) (fun _ _ _ h => h) (Or.inr ⟨by rfl, rfl⟩) HH.out ?_
        simp only [Act.put, List.setIfInBounds_toArray, List.set_cons_zero, List.set_cons_succ]
        refine wpAnyH_take (i := 23) (oi := ⟨some _, _, _, _, _, _⟩) (v := undef) rfl (by kernel_rfl) (by kernel_rfl) (by kernel_rfl) (fun _ _ _ h => h) (Or.inr ⟨by rfl, rfl⟩) HH.out ?_
        simp only [Act.put, List.setIfInBounds_toArray, List.set_cons_zero, List.set_cons_succ]
        refine wpAnyH_take (i := 24) (oi := ⟨some _, _, _, _, _, _⟩) (v := ?_) rfl (by kernel_rfl) (by kernel_rfl) (by kernel_rfl) (fun _ _ _ h => h) (Or.inl ⟨by rfl, ?_⟩) HH.out ?_
        rotate_left
        · intro wS hSw
          try dsimp only at hSw
          go_simp
          all_goals (with_reducible rfl)
        simp only [Act.put, List.setIfInBounds_toArray, List.set_cons_zero, List.set_cons_succ]
        refine wpAnyH_done (by kernel_rfl) ?_ _
        go_wp2
        go_ret2
        exact ⟨some ⟨y1.heap.size, 0, none⟩, 0, 0, by rw [HR.out, HE.out]; rfl, by rw [HR.out, HE.out]; exact Row.nil _ _ _ _ _ _, hbY.out.alloc (by omega) _⟩
      · obtain ⟨⟨v0, v1'⟩, v2, v3, v4, v5⟩ := isGen_in hv
        have hsum : N + n3 ≤ 1048576 := by
          have h1 := flat_le (gs := gs) (j + 1)
          rw [flat_take HG.out, List.length_append, hs3l, hNl] at h1
          have := HF.out.len
          omega
        have HRw := Lib.hid (show ∀ xs ∈ g.2, xs.length ≤ 17592186044416 from fun xs hx => by
          have h1 := (isMat_iff.1 v5).1 xs hx
          omega)
        rcases Nat.eq_zero_or_pos j with h0 | h0
        · have HC := Lib.hid (show chain gs (j + 1) = true by rw [chain_more, hD, hv, HA.out, decide_eq_true h0]; rfl)
          have HJ0 := Lib.hid (show decide (0 < j) = false from decide_eq_false (by omega))
          clear h0
          go_wp2
          refine wp_region_held (S := fun w' => w'.cell? (a1.add (j * 2)) = some (.int .i64 g.1) ∧ w'.cell? ⟨(a1.add (j * 2)).block, (a1.add (j * 2)).off + 1, none⟩ = some (.slice ad3 n3 cap3)) (by kernel_rfl) ?_
          change wpAnyH _ _ _ _ _ _ _ _ wr.drew
          generalize wr.drew = D at *
          have HH := Lib.hid (show D.cell? (a1.add (j * 2)) = some (.int .i64 g.1) ∧ D.cell? ⟨(a1.add (j * 2)).block, (a1.add (j * 2)).off + 1, none⟩ = some (.slice ad3 n3 cap3) from And.intro hc0 hc1)
          have KG := Lib.hid (spec_isGen D (b := g) ⟨_, rfl, hg1, _, _, _, rfl, hs3⟩)
          rw [hv] at KG
          refine wpAnyH_take (i := 0) (oi := ⟨some _, _, _, _, _, _⟩) (v := ?_) rfl (by kernel_rfl) (by kernel_rfl) (by kernel_rfl) (fun _ _ _ h => h) (Or.inl ⟨by rfl, ?_⟩) HH.out ?_
          rotate_left
          · intro wS hSw
            try dsimp only at hSw
            go_simp
            all_goals (with_reducible rfl)
          simp only [Act.put, List.setIfInBounds_toArray, List.set_cons_zero, List.set_cons_succ]
          refine wpAnyH_take (i := 1) (oi := ⟨some _, _, _, _, _, _⟩) (v := ?_) rfl (by kernel_rfl) (by kernel_rfl) (by kernel_rfl) (fun _ _ _ h => h) (Or.inl ⟨by rfl, ?_⟩) HH.out ?_
          rotate_left
          · intro wS hSw
            try dsimp only at hSw
            go_simp
            all_goals (with_reducible rfl)
          simp only [Act.put, List.setIfInBounds_toArray, List.set_cons_zero, List.set_cons_succ]
          refine wpAnyH_take (i := 2) (oi := ⟨some _, _, _, _, _, _⟩) (v := ?_) rfl (by kernel_rfl) (by kernel_rfl) (by kernel_rfl) (fun _ _ _ h => h) (Or.inl ⟨by rfl, ?_⟩) HH.out ?_
          rotate_left
          · intro wS hSw
            try dsimp only at hSw
            go_simp
            all_goals (with_reducible rfl)
          simp only [Act.put, List.setIfInBounds_toArray, List.set_cons_zero, List.set_cons_succ]
          refine wpAnyH_take (i := 3) (oi := ⟨some _, _, _, _, _, _⟩) (v := ?_) rfl (by kernel_rfl) (by kernel_rfl) (by kernel_rfl) (fun _ _ _ h => h) (Or.inl ⟨by rfl, ?_⟩) HH.out ?_
          rotate_left
          · intro wS hSw
            try dsimp only at hSw
            go_simp
            all_goals (with_reducible rfl)
          simp only [Act.put, List.setIfInBounds_toArray, List.set_cons_zero, List.set_cons_succ]
          refine wpAnyH_ready (rs := [4]) (by kernel_rfl) (by simp) ?_
          refine AllReadyH.cons (o := ⟨some _, _, _, _, _, _⟩) rfl (fun Kq hKq => ?_) AllReadyH.nil
          go_simp
          refine KG.out.mono ?_
          rintro e y1 ⟨rfl, bl⟩
          replace hc0 := (bl.cell (World.block_lt_of_cell? _ _ hc0)).trans hc0
          replace hc1 := (bl.cell (World.block_lt_of_cell? _ _ hc1)).trans hc1
          replace hs3 := hs3.below bl (.inr (Nat.le_refl _))
          replace hrD := hrD.below bl (.inr (Nat.le_refl _))
          have hbY := Lib.hid (hbD.trans (bl.mono zD))
          have zY := bl.size
          clear HH bl
          have HH := Lib.hid (show y1.cell? (a1.add (j * 2)) = some (.int .i64 g.1) ∧ y1.cell? ⟨(a1.add (j * 2)).block, (a1.add (j * 2)).off + 1, none⟩ = some (.slice ad3 n3 cap3) from And.intro hc0 hc1)
          refine hKq.out _ _ HH.out (fun _ => ?_)
          clear hKq Kq
          refine wpAnyH_take (i := 5) (oi := ⟨some _, _, _, _, _, _⟩) (v := ?_) rfl (by kernel_rfl) (by kernel_rfl) (by kernel_rfl) (fun _ _ _ h => h) (Or.inl ⟨by rfl, ?_⟩) HH.out ?_
          rotate_left
          · intro wS hSw
            try dsimp only at hSw
            go_simp
            all_goals (with_reducible rfl)
          simp only [Act.put, List.setIfInBounds_toArray, List.set_cons_zero, List.set_cons_succ]
          refine wpAnyH_take (i := 6) (oi := ⟨some _, _, _, _, _, _⟩) (v := ?_) rfl (by kernel_rfl) (by kernel_rfl) (by kernel_rfl) (fun _ _ _ h => h) (Or.inl ⟨by rfl, ?_⟩) HH.out ?_
          rotate_left
          · intro wS hSw
            try dsimp only at hSw
            go_simp
            all_goals (with_reducible rfl)
          simp only [Act.put, List.setIfInBounds_toArray, List.set_cons_zero, List.set_cons_succ]
          refine wpAnyH_take (i := 7) (oi := ⟨some _, _, _, _, _, _⟩) (v := ?_) rfl (by kernel_rfl) (by kernel_rfl) (by kernel_rfl) (fun _ _ _ h => h) (Or.inl ⟨by rfl, ?_⟩) HH.out ?_
          rotate_left
          · intro wS hSw
            try dsimp only at hSw
            go_simp
            all_goals (with_reducible rfl)
          simp only [Act.put, List.setIfInBounds_toArray, List.set_cons_zero, List.set_cons_succ]
          refine wpAnyH_take (i := 8) (oi := ⟨some _, _, _, _, _, _⟩) (v := ?_) rfl (by kernel_rfl) (by kernel_rfl) (by kernel_rfl) (fun _ _ _ h => h) (Or.inl ⟨by rfl, ?_⟩) HH.out ?_
          rotate_left
          · intro wS hSw
            try dsimp only at hSw
            go_simp
            all_goals (with_reducible rfl)
          simp only [Act.put, List.setIfInBounds_toArray, List.set_cons_zero, List.set_cons_succ]
          rw [HJ0.out]
          refine wpAnyH_take (i := 9) (oi := ⟨some _, _, _, _, _, _⟩) (v := ?_) rfl (by kernel_rfl) (by kernel_rfl) (by kernel_rfl) (fun _ _ _ h => h) (Or.inl ⟨by rfl, ?_⟩) HH.out ?_
          rotate_left
          · intro wS hSw
            try dsimp only at hSw
            go_simp
            all_goals (with_reducible rfl)
          simp only [Act.put, List.setIfInBounds_toArray, List.set_cons_zero, List.set_cons_succ]
          refine wpAnyH_take (i := 10) (oi := ⟨some _, _, _, _, _, _⟩) (v := undef) rfl (by kernel_rfl) (by kernel_rfl) (by kernel_rfl) (fun _ _ _ h => h) (Or.inr ⟨by rfl, rfl⟩) HH.out ?_
          simp only [Act.put, List.setIfInBounds_toArray, List.set_cons_zero, List.set_cons_succ]
          refine wpAnyH_take (i := 11) (oi := ⟨some _, _, _, _, _, _⟩) (v := undef) rfl (by kernel_rfl) (by kernel_rfl) (by kernel_rfl) (fun _ _ _ h => h) (Or.inr ⟨by rfl, rfl⟩) HH.out ?_
          simp only [Act.put, List.setIfInBounds_toArray, List.set_cons_zero, List.set_cons_succ]
          refine wpAnyH_take (i := 12) (oi := ⟨some _, _, _, _, _, _⟩) (v := undef) rfl (by kernel_rfl) (by kernel_rfl) (by kernel_rfl) (fun _ _ _ h => h) (Or.inr ⟨by rfl, rfl⟩) HH.out ?_
          simp only [Act.put, List.setIfInBounds_toArray, List.set_cons_zero, List.set_cons_succ]
          refine wpAnyH_take (i := 13) (oi := ⟨some _, _, _, _, _, _⟩) (v := undef) rfl (by kernel_rfl) (by kernel_rfl) (by kernel_rfl) (fun _ _ _ h => h) (Or.inr ⟨by rfl, rfl⟩) HH.out ?_
          simp only [Act.put, List.setIfInBounds_toArray, List.set_cons_zero, List.set_cons_succ]
          refine wpAnyH_take (i := 14) (oi := ⟨some _, _, _, _, _, _⟩) (v := undef) rfl (by kernel_rfl) (by kernel_rfl) (by kernel_rfl) (fun _ _ _ h => h) (Or.inr ⟨by rfl, rfl⟩) HH.out ?_
          simp only [Act.put, List.setIfInBounds_toArray, List.set_cons_zero, List.set_cons_succ]
          refine wpAnyH_take (i := 15) (oi := ⟨some _, _, _, _, _, _⟩) (v := undef) rfl (by kernel_rfl) (by kernel_rfl) (by kernel_rfl) (fun _ _ _ h => h) (Or.inr ⟨by rfl, rfl⟩) HH.out ?_
          simp only [Act.put, List.setIfInBounds_toArray, List.set_cons_zero, List.set_cons_succ]
          refine wpAnyH_take (i := 16) (oi := ⟨some _, _, _, _, _, _⟩) (v := undef) rfl (by kernel_rfl) (by kernel_rfl) (by kernel_rfl) (fun _ _ _ h => h) (Or.inr ⟨by rfl, rfl⟩) HH.out ?_
          simp only [Act.put, List.setIfInBounds_toArray, List.set_cons_zero, List.set_cons_succ]
          refine wpAnyH_take (i := 17) (oi := ⟨some _, _, _, _, _, _⟩) (v := undef) rfl (by kernel_rfl) (by kernel_rfl) (by kernel_rfl) (fun _ _ _ h => h) (Or.inr ⟨by rfl, rfl⟩) HH.out ?_
          simp only [Act.put, List.setIfInBounds_toArray, List.set_cons_zero, List.set_cons_succ]
          refine wpAnyH_take (i := 18) (oi := ⟨some _, _, _, _, _, _⟩) (v := undef) rfl (by kernel_rfl) (by kernel_rfl) (by kernel_rfl) (fun _ _ _ h => h) (Or.inr ⟨by rfl, rfl⟩) HH.out ?_
          simp only [Act.put, List.setIfInBounds_toArray, List.set_cons_zero, List.set_cons_succ]
          refine wpAnyH_take (i := 19) (oi := ⟨some _, _, _, _, _, _⟩) (v := undef) rfl (by kernel_rfl) (by kernel_rfl) (by kernel_rfl) (fun _ _ _ h => h) (Or.inr ⟨by rfl, rfl⟩) HH.out ?_
          simp only [Act.put, List.setIfInBounds_toArray, List.set_cons_zero, List.set_cons_succ]
          refine wpAnyH_take (i := 20) (oi := ⟨some _, _, _, _, _, _⟩) (v := undef) rfl (by kernel_rfl) (by kernel_rfl) (by kernel_rfl) (fun _ _ _ h => h) (Or.inr ⟨by rfl, rfl⟩) HH.out ?_
          simp only [Act.put, List.setIfInBounds_toArray, List.set_cons_zero, List.set_cons_succ]
          refine wpAnyH_take (i := 21) (oi := ⟨some _, _, _, _, _, _⟩) (v := undef) rfl (by kernel_rfl) (by kernel_rfl) (by kernel_rfl) (fun _ _ _ h => h) (Or.inr ⟨by rfl, rfl⟩) HH.out ?_
          simp only [Act.put, List.setIfInBounds_toArray, List.set_cons_zero, List.set_cons_succ]
          refine wpAnyH_take (i := 22) (oi := ⟨some _, _, _, _, _, _⟩) (v := undef) rfl (by kernel_rfl) (by kernel_rfl) (by kernel_rfl) (fun _ _ _ h => h) (Or.inr ⟨by rfl, rfl⟩) HH.out ?_
          simp only [Act.put, List.setIfInBounds_toArray, List.set_cons_zero, List.set_cons_succ]
          refine wpAnyH_take (i := 23) (oi := ⟨some _, _, _, _, _, _⟩) (v := ?_) rfl (by kernel_rfl) (by kernel_rfl) (by kernel_rfl) (fun _ _ _ h => h) (Or.inl ⟨by rfl, ?_⟩) HH.out ?_
          rotate_left
          · intro wS hSw
            try dsimp only at hSw
            go_simp
            all_goals (with_reducible rfl)
          simp only [Act.put, List.setIfInBounds_toArray, List.set_cons_zero, List.set_cons_succ]
          refine wpAnyH_take (i := 24) (oi := ⟨some _, _, _, _, _, _⟩) (v := ?_) rfl (by kernel_rfl) (by kernel_rfl) (by kernel_rfl) (fun _ _ _ h => h) (Or.inl ⟨by rfl, ?_⟩) HH.out ?_
          rotate_left
          · intro wS hSw
            try dsimp only at hSw
            go_simp
            all_goals (with_reducible rfl)
          simp only [Act.put, List.setIfInBounds_toArray, List.set_cons_zero, List.set_cons_succ]
          refine wpAnyH_done (by kernel_rfl) ?_ _
          clear HH
          go_wp2_with fail
          go_at_call 58
          refine (spec_copy y1 hs3 (by omega) HRw.out).mono ?_
          rintro e y2 ⟨ad4, n4, cap4, us4, rfl, g4, b4⟩
          obtain rfl : n4 = n3 := by rw [← g4.len, hs3l]
          have hr2 := hrD.below b4 (.inr (Nat.le_refl _))
          have z4 := b4.size
          have src : ∀ i v, us4[i]? = some v → ∀ A, ad4 = some A → y2.cell? (A.add i) = some v := by
            intro i v hv A hA
            obtain ⟨a, e, _, _, hc⟩ := g4.out.sl.cells i v hv
            rw [hA] at e
            obtain rfl := Option.some.inj e
            exact hc
          obtain ⟨q4, rfl, -, -⟩ := g4.out.pos (by omega)
          have HG4 := Lib.hid g4
          have HR2 := Lib.hid hr2
          have HB4 := Lib.hid b4
          have HSr := Lib.hid src
          clear g4 hr2 b4 src hs3 hrD hc0 hc1
          go_wp2_with (at_builtin; refine wpList_pushK (K := 1) (by decide) (m := n4) (by omega) (k1 HR2.out.out) (vs := us4) (by rw [HG4.out.out.len, Nat.mul_one]) (fun i v hv => HSr.out i v hv _ rfl) HG4.out.out.one Try.underlying32 info_ints rfl (by unfold maxLen; omega) (by omega) rfl _ _ rfl rfl rfl ?_; intro q5 cap5 y3 o5 p5)
          have hA := HR2.out.app HG4.out.loose (v1 o5) p5 (by omega) (by omega) zY
          rw [← flat_take HG.out] at hA
          have hb5 := hbY.out.trans ((HB4.out.mono (by omega)).trans (p5.below (Nat.le_refl _) (by omega)))
          go_roundw
          case rel => exact ⟨j + 1, _, _, _, _, by omega, by omega, by go_num, rfl, hA, hb5, HC.out⟩
          case measure => simp [intOf]; omega
        obtain ⟨p, hpj⟩ : ∃ p, j = p + 1 := ⟨j - 1, by omega⟩
        have hpl : p < n := by omega
        have hjp : 0 < j := by omega
        have hjpI : (0 : Int) < (j : Int) := by omega
        have hw1 : IntKind.i64.wrap (p : Int) = (p : Int) := by rw [IntKind.wrap_i64]; omega
        have hw2 : (j : Int) - 1 = (p : Int) := by omega
        have hjm : j - 1 = p := by omega
        have HJM := Lib.hid hjm
        clear hpj hjm h0
        obtain ⟨a0, ad0, n0, cap0, g0, e0, hg0, hcp, -, hb0', -⟩ := (HS.out.below hbD (.inr (Nat.le_refl _))).at_ (j := p) (by omega)
        obtain rfl := Option.some.inj e0
        clear e0
        have hD0 : gs.getD p (0, []) = g0 := by rw [List.getD_eq_getElem?_getD, hg0]; rfl
        have hv0 : isGen g0 = true := by rw [← hD0]; exact (chain_iff.1 HA.out p (by omega)).1
        obtain ⟨⟨u0, u1⟩, -⟩ := isGen_in hv0
        clear hg0 hv0
        by_cases hid : g.1 = g0.1 + 1
        case neg =>
          have hidb : (g.1 != g0.1 + 1) = true := by simpa using hid
          have hw3 : IntKind.i64.wrap (g0.1 + 1) = g0.1 + 1 := by rw [IntKind.wrap_i64]; omega
          have HE := Lib.hid (join_bad (gs := gs) (j := j + 1) (by rw [chain_more, hD, HJM.out, hD0, hv, decide_eq_false hid]; simp; exact fun _ => by omega) (by rw [hL.out]; omega))
          go_wp2
          refine wp_region_held (S := fun w' => w'.cell? (a1.add (j * 2)) = some (.int .i64 g.1) ∧ w'.cell? ⟨(a1.add (j * 2)).block, (a1.add (j * 2)).off + 1, none⟩ = some (.slice ad3 n3 cap3) ∧ w'.cell? (a1.add (p * 2)) = some (.int .i64 g0.1)) (by kernel_rfl) ?_
          change wpAnyH _ _ _ _ _ _ _ _ wr.drew
          generalize wr.drew = D at *
          have HH := Lib.hid (show D.cell? (a1.add (j * 2)) = some (.int .i64 g.1) ∧ D.cell? ⟨(a1.add (j * 2)).block, (a1.add (j * 2)).off + 1, none⟩ = some (.slice ad3 n3 cap3) ∧ D.cell? (a1.add (p * 2)) = some (.int .i64 g0.1) from And.intro hc0 (And.intro hc1 hcp))
          have KG := Lib.hid (spec_isGen D (b := g) ⟨_, rfl, hg1, _, _, _, rfl, hs3⟩)
          rw [hv] at KG
          refine wpAnyH_take (i := 0) (oi := ⟨some _, _, _, _, _, _⟩) (v := ?_) rfl (by kernel_rfl) (by kernel_rfl) (by kernel_rfl) (fun _ _ _ h => h) (Or.inl ⟨by rfl, ?_⟩) HH.out ?_
          rotate_left
          · intro wS hSw
            try dsimp only at hSw
            go_simp
            all_goals (with_reducible rfl)
          simp only [Act.put, List.setIfInBounds_toArray, List.set_cons_zero, List.set_cons_succ]
          refine wpAnyH_take (i := 1) (oi := ⟨some _, _, _, _, _, _⟩) (v := ?_) rfl (by kernel_rfl) (by kernel_rfl) (by kernel_rfl) (fun _ _ _ h => h) (Or.inl ⟨by rfl, ?_⟩) HH.out ?_
          rotate_left
          · intro wS hSw
            try dsimp only at hSw
            go_simp
            all_goals (with_reducible rfl)
          simp only [Act.put, List.setIfInBounds_toArray, List.set_cons_zero, List.set_cons_succ]
          refine wpAnyH_take (i := 2) (oi := ⟨some _, _, _, _, _, _⟩) (v := ?_) rfl (by kernel_rfl) (by kernel_rfl) (by kernel_rfl) (fun _ _ _ h => h) (Or.inl ⟨by rfl, ?_⟩) HH.out ?_
          rotate_left
          · intro wS hSw
            try dsimp only at hSw
            go_simp
            all_goals (with_reducible rfl)
          simp only [Act.put, List.setIfInBounds_toArray, List.set_cons_zero, List.set_cons_succ]
          refine wpAnyH_take (i := 3) (oi := ⟨some _, _, _, _, _, _⟩) (v := ?_) rfl (by kernel_rfl) (by kernel_rfl) (by kernel_rfl) (fun _ _ _ h => h) (Or.inl ⟨by rfl, ?_⟩) HH.out ?_
          rotate_left
          · intro wS hSw
            try dsimp only at hSw
            go_simp
            all_goals (with_reducible rfl)
          simp only [Act.put, List.setIfInBounds_toArray, List.set_cons_zero, List.set_cons_succ]
          refine wpAnyH_ready (rs := [4]) (by kernel_rfl) (by simp) ?_
          refine AllReadyH.cons (o := ⟨some _, _, _, _, _, _⟩) rfl (fun Kq hKq => ?_) AllReadyH.nil
          go_simp
          refine KG.out.mono ?_
          rintro e y1 ⟨rfl, bl⟩
          replace hc0 := (bl.cell (World.block_lt_of_cell? _ _ hc0)).trans hc0
          replace hc1 := (bl.cell (World.block_lt_of_cell? _ _ hc1)).trans hc1
          replace hcp := (bl.cell (World.block_lt_of_cell? _ _ hcp)).trans hcp
          replace hs3 := hs3.below bl (.inr (Nat.le_refl _))
          replace hrD := hrD.below bl (.inr (Nat.le_refl _))
          have hbY := Lib.hid (hbD.trans (bl.mono zD))
          have zY := bl.size
          clear HH bl
          have HH := Lib.hid (show y1.cell? (a1.add (j * 2)) = some (.int .i64 g.1) ∧ y1.cell? ⟨(a1.add (j * 2)).block, (a1.add (j * 2)).off + 1, none⟩ = some (.slice ad3 n3 cap3) ∧ y1.cell? (a1.add (p * 2)) = some (.int .i64 g0.1) from And.intro hc0 (And.intro hc1 hcp))
          refine hKq.out _ _ HH.out (fun _ => ?_)
          clear hKq Kq
          refine wpAnyH_take (i := 5) (oi := ⟨some _, _, _, _, _, _⟩) (v := ?_) rfl (by kernel_rfl) (by kernel_rfl) (by kernel_rfl) (fun _ _ _ h => h) (Or.inl ⟨by rfl, ?_⟩) HH.out ?_
          rotate_left
          · intro wS hSw
            try dsimp only at hSw
            go_simp
            all_goals (with_reducible rfl)
          simp only [Act.put, List.setIfInBounds_toArray, List.set_cons_zero, List.set_cons_succ]
          refine wpAnyH_take (i := 6) (oi := ⟨some _, _, _, _, _, _⟩) (v := ?_) rfl (by kernel_rfl) (by kernel_rfl) (by kernel_rfl) (fun _ _ _ h => h) (Or.inl ⟨by rfl, ?_⟩) HH.out ?_
          rotate_left
          · intro wS hSw
            try dsimp only at hSw
            go_simp
            all_goals (with_reducible rfl)
          simp only [Act.put, List.setIfInBounds_toArray, List.set_cons_zero, List.set_cons_succ]
          refine wpAnyH_take (i := 7) (oi := ⟨some _, _, _, _, _, _⟩) (v := ?_) rfl (by kernel_rfl) (by kernel_rfl) (by kernel_rfl) (fun _ _ _ h => h) (Or.inl ⟨by rfl, ?_⟩) HH.out ?_
          rotate_left
          · intro wS hSw
            try dsimp only at hSw
            go_simp
            all_goals (with_reducible rfl)
          simp only [Act.put, List.setIfInBounds_toArray, List.set_cons_zero, List.set_cons_succ]
          refine wpAnyH_take (i := 8) (oi := ⟨some _, _, _, _, _, _⟩) (v := ?_) rfl (by kernel_rfl) (by kernel_rfl) (by kernel_rfl) (fun _ _ _ h => h) (Or.inl ⟨by rfl, ?_⟩) HH.out ?_
          rotate_left
          · intro wS hSw
            try dsimp only at hSw
            go_simp
            all_goals (with_reducible rfl)
          simp only [Act.put, List.setIfInBounds_toArray, List.set_cons_zero, List.set_cons_succ]
          refine wpAnyH_take (i := 9) (oi := ⟨some _, _, _, _, _, _⟩) (v := ?_) rfl (by kernel_rfl) (by kernel_rfl) (by kernel_rfl) (fun _ _ _ h => h) (Or.inl ⟨by rfl, ?_⟩) HH.out ?_
          rotate_left
          · intro wS hSw
            try dsimp only at hSw
            go_simp
            all_goals (with_reducible rfl)
          simp only [Act.put, List.setIfInBounds_toArray, List.set_cons_zero, List.set_cons_succ]
          refine wpAnyH_take (i := 10) (oi := ⟨some _, _, _, _, _, _⟩) (v := ?_) rfl (by kernel_rfl) (by kernel_rfl) (by kernel_rfl) (fun _ _ _ h => h) (Or.inl ⟨by rfl, ?_⟩) HH.out ?_
          rotate_left
          · intro wS hSw
            try dsimp only at hSw
            go_simp
            all_goals (with_reducible rfl)
          simp only [Act.put, List.setIfInBounds_toArray, List.set_cons_zero, List.set_cons_succ]
          refine wpAnyH_take (i := 11) (oi := ⟨some _, _, _, _, _, _⟩) (v := ?_) rfl (by kernel_rfl) (by kernel_rfl) (by kernel_rfl) (fun _ _ _ h => h) (Or.inl ⟨by rfl, ?_⟩) HH.out ?_
          rotate_left
          · intro wS hSw
            try dsimp only at hSw
            go_simp
            all_goals (with_reducible rfl)
          simp only [Act.put, List.setIfInBounds_toArray, List.set_cons_zero, List.set_cons_succ]
          refine wpAnyH_take (i := 12) (oi := ⟨some _, _, _, _, _, _⟩) (v := ?_) rfl (by kernel_rfl) (by kernel_rfl) (by kernel_rfl) (fun _ _ _ h => h) (Or.inl ⟨by rfl, ?_⟩) HH.out ?_
          rotate_left
          · intro wS hSw
            try dsimp only at hSw
            go_simp
            all_goals (with_reducible rfl)
          simp only [Act.put, List.setIfInBounds_toArray, List.set_cons_zero, List.set_cons_succ]
          refine wpAnyH_take (i := 13) (oi := ⟨some _, _, _, _, _, _⟩) (v := ?_) rfl (by kernel_rfl) (by kernel_rfl) (by kernel_rfl) (fun _ _ _ h => h) (Or.inl ⟨by rfl, ?_⟩) HH.out ?_
          rotate_left
          · intro wS hSw
            try dsimp only at hSw
            go_simp
            all_goals (with_reducible rfl)
          simp only [Act.put, List.setIfInBounds_toArray, List.set_cons_zero, List.set_cons_succ]
          refine wpAnyH_take (i := 14) (oi := ⟨some _, _, _, _, _, _⟩) (v := ?_) rfl (by kernel_rfl) (by kernel_rfl) (by kernel_rfl) (fun _ _ _ h => h) (Or.inl ⟨by rfl, ?_⟩) HH.out ?_
          rotate_left
          · intro wS hSw
            try dsimp only at hSw
            go_simp
            all_goals (with_reducible rfl)
          simp only [Act.put, List.setIfInBounds_toArray, List.set_cons_zero, List.set_cons_succ]
          refine wpAnyH_take (i := 15) (oi := ⟨some _, _, _, _, _, _⟩) (v := ?_) rfl (by kernel_rfl) (by kernel_rfl) (by kernel_rfl) (fun _ _ _ h => h) (Or.inl ⟨by rfl, ?_⟩) HH.out ?_
          rotate_left
          · intro wS hSw
            try dsimp only at hSw
            go_simp
            all_goals (with_reducible rfl)
          simp only [Act.put, List.setIfInBounds_toArray, List.set_cons_zero, List.set_cons_succ]
          refine wpAnyH_take (i := 16) (oi := ⟨some _, _, _, _, _, _⟩) (v := ?_) rfl (by kernel_rfl) (by kernel_rfl) (by kernel_rfl) (fun _ _ _ h => h) (Or.inl ⟨by rfl, ?_⟩) HH.out ?_
          rotate_left
          · intro wS hSw
            try dsimp only at hSw
            go_simp
            all_goals (with_reducible rfl)
          simp only [Act.put, List.setIfInBounds_toArray, List.set_cons_zero, List.set_cons_succ]
          refine wpAnyH_take (i := 17) (oi := ⟨some _, _, _, _, _, _⟩) (v := ?_) rfl (by kernel_rfl) (by kernel_rfl) (by kernel_rfl) (fun _ _ _ h => h) (Or.inl ⟨by rfl, ?_⟩) HH.out ?_
          rotate_left
          · intro wS hSw
            try dsimp only at hSw
            go_simp
            all_goals (with_reducible rfl)
          simp only [Act.put, List.setIfInBounds_toArray, List.set_cons_zero, List.set_cons_succ]
          refine wpAnyH_take (i := 18) (oi := ⟨some _, _, _, _, _, _⟩) (v := ?_) rfl (by kernel_rfl) (by kernel_rfl) (by kernel_rfl) (fun _ _ _ h => h) (Or.inl ⟨by rfl, ?_⟩) HH.out ?_
          rotate_left
          · intro wS hSw
            try dsimp only at hSw
            go_simp
            all_goals (with_reducible rfl)
          simp only [Act.put, List.setIfInBounds_toArray, List.set_cons_zero, List.set_cons_succ]
          refine wpAnyH_take (i := 19) (oi := ⟨some _, _, _, _, _, _⟩) (v := ?_) rfl (by kernel_rfl) (by kernel_rfl) (by kernel_rfl) (fun _ _ _ h => h) (Or.inl ⟨by rfl, ?_⟩) HH.out ?_
          rotate_left
          · intro wS hSw
            try dsimp only at hSw
            go_simp
            all_goals (with_reducible rfl)
          simp only [Act.put, List.setIfInBounds_toArray, List.set_cons_zero, List.set_cons_succ]
          refine wpAnyH_take (i := 20) (oi := ⟨some _, _, _, _, _, _⟩) (v := ?_) rfl (by kernel_rfl) (by kernel_rfl) (by kernel_rfl) (fun _ _ _ h => h) (Or.inl ⟨by rfl, ?_⟩) HH.out ?_
          rotate_left
          · intro wS hSw
            try dsimp only at hSw
            go_simp
            all_goals (with_reducible rfl)
          simp only [Act.put, List.setIfInBounds_toArray, List.set_cons_zero, List.set_cons_succ]
          refine wpAnyH_take (i := 21) (oi := ⟨some _, _, _, _, _, _⟩) (v := ?_) rfl (by kernel_rfl) (by kernel_rfl) (by kernel_rfl) (fun _ _ _ h => h) (Or.inl ⟨by rfl, ?_⟩) HH.out ?_
          rotate_left
          · intro wS hSw
            try dsimp only at hSw
            go_simp
            all_goals (with_reducible rfl)
          simp only [Act.put, List.setIfInBounds_toArray, List.set_cons_zero, List.set_cons_succ]
          refine wpAnyH_take (i := 22) (oi := ⟨some _, _, _, _, _, _⟩) (v := ?_) rfl (by kernel_rfl) (by kernel_rfl) (by kernel_rfl) (fun _ _ _ h => h) (Or.inl ⟨by rfl, ?_⟩) HH.out ?_
          rotate_left
          · intro wS hSw
            try dsimp only at hSw
            go_simp
            all_goals (with_reducible rfl)
          simp only [Act.put, List.setIfInBounds_toArray, List.set_cons_zero, List.set_cons_succ]
          refine wpAnyH_take (i := 23) (oi := ⟨some _, _, _, _, _, _⟩) (v := ?_) rfl (by kernel_rfl) (by kernel_rfl) (by kernel_rfl) (fun _ _ _ h => h) (Or.inl ⟨by rfl, ?_⟩) HH.out ?_
          rotate_left
          · intro wS hSw
            try dsimp only at hSw
            go_simp
            all_goals (with_reducible rfl)
          simp only [Act.put, List.setIfInBounds_toArray, List.set_cons_zero, List.set_cons_succ]
          refine wpAnyH_take (i := 24) (oi := ⟨some _, _, _, _, _, _⟩) (v := ?_) rfl (by kernel_rfl) (by kernel_rfl) (by kernel_rfl) (fun _ _ _ h => h) (Or.inl ⟨by rfl, ?_⟩) HH.out ?_
          rotate_left
          · intro wS hSw
            try dsimp only at hSw
            go_simp
            all_goals (with_reducible rfl)
          simp only [Act.put, List.setIfInBounds_toArray, List.set_cons_zero, List.set_cons_succ]
          refine wpAnyH_done (by kernel_rfl) ?_ _
          go_wp2
          go_ret2
          exact ⟨some ⟨y1.heap.size, 0, none⟩, 0, 0, by rw [HR.out, HE.out]; rfl, by rw [HR.out, HE.out]; exact Row.nil _ _ _ _ _ _, hbY.out.alloc (by omega) _⟩
        have HC := Lib.hid (show chain gs (j + 1) = true by rw [chain_more, hD, HJM.out, hD0, hv, decide_eq_true hid]; simp; exact HA.out)
        have HI := Lib.hid (show (g.1 != g0.1 + 1) = false by simpa using hid)
        clear hid
        have hw3 : IntKind.i64.wrap (g0.1 + 1) = g0.1 + 1 := by rw [IntKind.wrap_i64]; omega
        go_wp2
        refine wp_region_held (S := fun w' => w'.cell? (a1.add (j * 2)) = some (.int .i64 g.1) ∧ w'.cell? ⟨(a1.add (j * 2)).block, (a1.add (j * 2)).off + 1, none⟩ = some (.slice ad3 n3 cap3) ∧ w'.cell? (a1.add (p * 2)) = some (.int .i64 g0.1)) (by kernel_rfl) ?_
        change wpAnyH _ _ _ _ _ _ _ _ wr.drew
        generalize wr.drew = D at *
        have HH := Lib.hid (show D.cell? (a1.add (j * 2)) = some (.int .i64 g.1) ∧ D.cell? ⟨(a1.add (j * 2)).block, (a1.add (j * 2)).off + 1, none⟩ = some (.slice ad3 n3 cap3) ∧ D.cell? (a1.add (p * 2)) = some (.int .i64 g0.1) from And.intro hc0 (And.intro hc1 hcp))
        have KG := Lib.hid (spec_isGen D (b := g) ⟨_, rfl, hg1, _, _, _, rfl, hs3⟩)
        rw [hv] at KG
        refine wpAnyH_take (i := 0) (oi := ⟨some _, _, _, _, _, _⟩) (v := ?_) rfl (by kernel_rfl) (by kernel_rfl) (by kernel_rfl) (fun _ _ _ h => h) (Or.inl ⟨by rfl, ?_⟩) HH.out ?_
        rotate_left
        · intro wS hSw
          try dsimp only at hSw
          go_simp
          all_goals (with_reducible rfl)
        simp only [Act.put, List.setIfInBounds_toArray, List.set_cons_zero, List.set_cons_succ]
        refine wpAnyH_take (i := 1) (oi := ⟨some _, _, _, _, _, _⟩) (v := ?_) rfl (by kernel_rfl) (by kernel_rfl) (by kernel_rfl) (fun _ _ _ h => h) (Or.inl ⟨by rfl, ?_⟩) HH.out ?_
        rotate_left
        · intro wS hSw
          try dsimp only at hSw
          go_simp
          all_goals (with_reducible rfl)
        simp only [Act.put, List.setIfInBounds_toArray, List.set_cons_zero, List.set_cons_succ]
        refine wpAnyH_take (i := 2) (oi := ⟨some _, _, _, _, _, _⟩) (v := ?_) rfl (by kernel_rfl) (by kernel_rfl) (by kernel_rfl) (fun _ _ _ h => h) (Or.inl ⟨by rfl, ?_⟩) HH.out ?_
        rotate_left
        · intro wS hSw
          try dsimp only at hSw
          go_simp
          all_goals (with_reducible rfl)
        simp only [Act.put, List.setIfInBounds_toArray, List.set_cons_zero, List.set_cons_succ]
        refine wpAnyH_take (i := 3) (oi := ⟨some _, _, _, _, _, _⟩) (v := ?_) rfl (by kernel_rfl) (by kernel_rfl) (by kernel_rfl) (fun _ _ _ h => h) (Or.inl ⟨by rfl, ?_⟩) HH.out ?_
        rotate_left
        · intro wS hSw
          try dsimp only at hSw
          go_simp
          all_goals (with_reducible rfl)
        simp only [Act.put, List.setIfInBounds_toArray, List.set_cons_zero, List.set_cons_succ]
        refine wpAnyH_ready (rs := [4]) (by kernel_rfl) (by simp) ?_
        refine AllReadyH.cons (o := ⟨some _, _, _, _, _, _⟩) rfl (fun Kq hKq => ?_) AllReadyH.nil
        go_simp
        refine KG.out.mono ?_
        rintro e y1 ⟨rfl, bl⟩
        replace hc0 := (bl.cell (World.block_lt_of_cell? _ _ hc0)).trans hc0
        replace hc1 := (bl.cell (World.block_lt_of_cell? _ _ hc1)).trans hc1
        replace hcp := (bl.cell (World.block_lt_of_cell? _ _ hcp)).trans hcp
        replace hs3 := hs3.below bl (.inr (Nat.le_refl _))
        replace hrD := hrD.below bl (.inr (Nat.le_refl _))
        have hbY := Lib.hid (hbD.trans (bl.mono zD))
        have zY := bl.size
        clear HH bl
        have HH := Lib.hid (show y1.cell? (a1.add (j * 2)) = some (.int .i64 g.1) ∧ y1.cell? ⟨(a1.add (j * 2)).block, (a1.add (j * 2)).off + 1, none⟩ = some (.slice ad3 n3 cap3) ∧ y1.cell? (a1.add (p * 2)) = some (.int .i64 g0.1) from And.intro hc0 (And.intro hc1 hcp))
        refine hKq.out _ _ HH.out (fun _ => ?_)
        clear hKq Kq
        refine wpAnyH_take (i := 5) (oi := ⟨some _, _, _, _, _, _⟩) (v := ?_) rfl (by kernel_rfl) (by kernel_rfl) (by kernel_rfl) (fun _ _ _ h => h) (Or.inl ⟨by rfl, ?_⟩) HH.out ?_
        rotate_left
        · intro wS hSw
          try dsimp only at hSw
          go_simp
          all_goals (with_reducible rfl)
        simp only [Act.put, List.setIfInBounds_toArray, List.set_cons_zero, List.set_cons_succ]
        refine wpAnyH_take (i := 6) (oi := ⟨some _, _, _, _, _, _⟩) (v := ?_) rfl (by kernel_rfl) (by kernel_rfl) (by kernel_rfl) (fun _ _ _ h => h) (Or.inl ⟨by rfl, ?_⟩) HH.out ?_
        rotate_left
        · intro wS hSw
          try dsimp only at hSw
          go_simp
          all_goals (with_reducible rfl)
        simp only [Act.put, List.setIfInBounds_toArray, List.set_cons_zero, List.set_cons_succ]
        refine wpAnyH_take (i := 7) (oi := ⟨some _, _, _, _, _, _⟩) (v := ?_) rfl (by kernel_rfl) (by kernel_rfl) (by kernel_rfl) (fun _ _ _ h => h) (Or.inl ⟨by rfl, ?_⟩) HH.out ?_
        rotate_left
        · intro wS hSw
          try dsimp only at hSw
          go_simp
          all_goals (with_reducible rfl)
        simp only [Act.put, List.setIfInBounds_toArray, List.set_cons_zero, List.set_cons_succ]
        refine wpAnyH_take (i := 8) (oi := ⟨some _, _, _, _, _, _⟩) (v := ?_) rfl (by kernel_rfl) (by kernel_rfl) (by kernel_rfl) (fun _ _ _ h => h) (Or.inl ⟨by rfl, ?_⟩) HH.out ?_
        rotate_left
        · intro wS hSw
          try dsimp only at hSw
          go_simp
          all_goals (with_reducible rfl)
        simp only [Act.put, List.setIfInBounds_toArray, List.set_cons_zero, List.set_cons_succ]
        refine wpAnyH_take (i := 9) (oi := ⟨some _, _, _, _, _, _⟩) (v := ?_) rfl (by kernel_rfl) (by kernel_rfl) (by kernel_rfl) (fun _ _ _ h => h) (Or.inl ⟨by rfl, ?_⟩) HH.out ?_
        rotate_left
        · intro wS hSw
          try dsimp only at hSw
          go_simp
          all_goals (with_reducible rfl)
        simp only [Act.put, List.setIfInBounds_toArray, List.set_cons_zero, List.set_cons_succ]
        refine wpAnyH_take (i := 10) (oi := ⟨some _, _, _, _, _, _⟩) (v := ?_) rfl (by kernel_rfl) (by kernel_rfl) (by kernel_rfl) (fun _ _ _ h => h) (Or.inl ⟨by rfl, ?_⟩) HH.out ?_
        rotate_left
        · intro wS hSw
          try dsimp only at hSw
          go_simp
          all_goals (with_reducible rfl)
        simp only [Act.put, List.setIfInBounds_toArray, List.set_cons_zero, List.set_cons_succ]
        refine wpAnyH_take (i := 11) (oi := ⟨some _, _, _, _, _, _⟩) (v := ?_) rfl (by kernel_rfl) (by kernel_rfl) (by kernel_rfl) (fun _ _ _ h => h) (Or.inl ⟨by rfl, ?_⟩) HH.out ?_
        rotate_left
        · intro wS hSw
          try dsimp only at hSw
          go_simp
          all_goals (with_reducible rfl)
        simp only [Act.put, List.setIfInBounds_toArray, List.set_cons_zero, List.set_cons_succ]
        refine wpAnyH_take (i := 12) (oi := ⟨some _, _, _, _, _, _⟩) (v := ?_) rfl (by kernel_rfl) (by kernel_rfl) (by kernel_rfl) (fun _ _ _ h => h) (Or.inl ⟨by rfl, ?_⟩) HH.out ?_
        rotate_left
        · intro wS hSw
          try dsimp only at hSw
          go_simp
          all_goals (with_reducible rfl)
        simp only [Act.put, List.setIfInBounds_toArray, List.set_cons_zero, List.set_cons_succ]
        refine wpAnyH_take (i := 13) (oi := ⟨some _, _, _, _, _, _⟩) (v := ?_) rfl (by kernel_rfl) (by kernel_rfl) (by kernel_rfl) (fun _ _ _ h => h) (Or.inl ⟨by rfl, ?_⟩) HH.out ?_
        rotate_left
        · intro wS hSw
          try dsimp only at hSw
          go_simp
          all_goals (with_reducible rfl)
        simp only [Act.put, List.setIfInBounds_toArray, List.set_cons_zero, List.set_cons_succ]
        refine wpAnyH_take (i := 14) (oi := ⟨some _, _, _, _, _, _⟩) (v := ?_) rfl (by kernel_rfl) (by kernel_rfl) (by kernel_rfl) (fun _ _ _ h => h) (Or.inl ⟨by rfl, ?_⟩) HH.out ?_
        rotate_left
        · intro wS hSw
          try dsimp only at hSw
          go_simp
          all_goals (with_reducible rfl)
        simp only [Act.put, List.setIfInBounds_toArray, List.set_cons_zero, List.set_cons_succ]
        refine wpAnyH_take (i := 15) (oi := ⟨some _, _, _, _, _, _⟩) (v := ?_) rfl (by kernel_rfl) (by kernel_rfl) (by kernel_rfl) (fun _ _ _ h => h) (Or.inl ⟨by rfl, ?_⟩) HH.out ?_
        rotate_left
        · intro wS hSw
          try dsimp only at hSw
          go_simp
          all_goals (with_reducible rfl)
        simp only [Act.put, List.setIfInBounds_toArray, List.set_cons_zero, List.set_cons_succ]
        refine wpAnyH_take (i := 16) (oi := ⟨some _, _, _, _, _, _⟩) (v := ?_) rfl (by kernel_rfl) (by kernel_rfl) (by kernel_rfl) (fun _ _ _ h => h) (Or.inl ⟨by rfl, ?_⟩) HH.out ?_
        rotate_left
        · intro wS hSw
          try dsimp only at hSw
          go_simp
          all_goals (with_reducible rfl)
        simp only [Act.put, List.setIfInBounds_toArray, List.set_cons_zero, List.set_cons_succ]
        refine wpAnyH_take (i := 17) (oi := ⟨some _, _, _, _, _, _⟩) (v := ?_) rfl (by kernel_rfl) (by kernel_rfl) (by kernel_rfl) (fun _ _ _ h => h) (Or.inl ⟨by rfl, ?_⟩) HH.out ?_
        rotate_left
        · intro wS hSw
          try dsimp only at hSw
          go_simp
          all_goals (with_reducible rfl)
        simp only [Act.put, List.setIfInBounds_toArray, List.set_cons_zero, List.set_cons_succ]
        refine wpAnyH_take (i := 18) (oi := ⟨some _, _, _, _, _, _⟩) (v := ?_) rfl (by kernel_rfl) (by kernel_rfl) (by kernel_rfl) (fun _ _ _ h => h) (Or.inl ⟨by rfl, ?_⟩) HH.out ?_
        rotate_left
        · intro wS hSw
          try dsimp only at hSw
          go_simp
          all_goals (with_reducible rfl)
        simp only [Act.put, List.setIfInBounds_toArray, List.set_cons_zero, List.set_cons_succ]
        refine wpAnyH_take (i := 19) (oi := ⟨some _, _, _, _, _, _⟩) (v := ?_) rfl (by kernel_rfl) (by kernel_rfl) (by kernel_rfl) (fun _ _ _ h => h) (Or.inl ⟨by rfl, ?_⟩) HH.out ?_
        rotate_left
        · intro wS hSw
          try dsimp only at hSw
          go_simp
          all_goals (with_reducible rfl)
        simp only [Act.put, List.setIfInBounds_toArray, List.set_cons_zero, List.set_cons_succ]
        refine wpAnyH_take (i := 20) (oi := ⟨some _, _, _, _, _, _⟩) (v := ?_) rfl (by kernel_rfl) (by kernel_rfl) (by kernel_rfl) (fun _ _ _ h => h) (Or.inl ⟨by rfl, ?_⟩) HH.out ?_
        rotate_left
        · intro wS hSw
          try dsimp only at hSw
          go_simp
          all_goals (with_reducible rfl)
        simp only [Act.put, List.setIfInBounds_toArray, List.set_cons_zero, List.set_cons_succ]
        refine wpAnyH_take (i := 21) (oi := ⟨some _, _, _, _, _, _⟩) (v := ?_) rfl (by kernel_rfl) (by kernel_rfl) (by kernel_rfl) (fun _ _ _ h => h) (Or.inl ⟨by rfl, ?_⟩) HH.out ?_
        rotate_left
        · intro wS hSw
          try dsimp only at hSw
          go_simp
          all_goals (with_reducible rfl)
        simp only [Act.put, List.setIfInBounds_toArray, List.set_cons_zero, List.set_cons_succ]
        refine wpAnyH_take (i := 22) (oi := ⟨some _, _, _, _, _, _⟩) (v := ?_) rfl (by kernel_rfl) (by kernel_rfl) (by kernel_rfl) (fun _ _ _ h => h) (Or.inl ⟨by rfl, ?_⟩) HH.out ?_
        rotate_left
        · intro wS hSw
          try dsimp only at hSw
          go_simp
          all_goals (with_reducible rfl)
        simp only [Act.put, List.setIfInBounds_toArray, List.set_cons_zero, List.set_cons_succ]
        rw [HI.out]
        refine wpAnyH_take (i := 23) (oi := ⟨some _, _, _, _, _, _⟩) (v := ?_) rfl (by kernel_rfl) (by kernel_rfl) (by kernel_rfl) (fun _ _ _ h => h) (Or.inl ⟨by rfl, ?_⟩) HH.out ?_
        rotate_left
        · intro wS hSw
          try dsimp only at hSw
          go_simp
          all_goals (with_reducible rfl)
        simp only [Act.put, List.setIfInBounds_toArray, List.set_cons_zero, List.set_cons_succ]
        refine wpAnyH_take (i := 24) (oi := ⟨some _, _, _, _, _, _⟩) (v := ?_) rfl (by kernel_rfl) (by kernel_rfl) (by kernel_rfl) (fun _ _ _ h => h) (Or.inl ⟨by rfl, ?_⟩) HH.out ?_
        rotate_left
        · intro wS hSw
          try dsimp only at hSw
          go_simp
          all_goals (with_reducible rfl)
        simp only [Act.put, List.setIfInBounds_toArray, List.set_cons_zero, List.set_cons_succ]
        refine wpAnyH_done (by kernel_rfl) ?_ _
        clear HH
        go_wp2_with fail
        go_at_call 58
        refine (spec_copy y1 hs3 (by omega) HRw.out).mono ?_
        rintro e y2 ⟨ad4, n4, cap4, us4, rfl, g4, b4⟩
        obtain rfl : n4 = n3 := by rw [← g4.len, hs3l]
        have hr2 := hrD.below b4 (.inr (Nat.le_refl _))
        have z4 := b4.size
        have src : ∀ i v, us4[i]? = some v → ∀ A, ad4 = some A → y2.cell? (A.add i) = some v := by
          intro i v hv A hA
          obtain ⟨a, e, _, _, hc⟩ := g4.out.sl.cells i v hv
          rw [hA] at e
          obtain rfl := Option.some.inj e
          exact hc
        obtain ⟨q4, rfl, -, -⟩ := g4.out.pos (by omega)
        have HG4 := Lib.hid g4
        have HR2 := Lib.hid hr2
        have HB4 := Lib.hid b4
        have HSr := Lib.hid src
        clear g4 hr2 b4 src hs3 hrD hc0 hc1
        go_wp2_with (at_builtin; refine wpList_pushK (K := 1) (by decide) (m := n4) (by omega) (k1 HR2.out.out) (vs := us4) (by rw [HG4.out.out.len, Nat.mul_one]) (fun i v hv => HSr.out i v hv _ rfl) HG4.out.out.one Try.underlying32 info_ints rfl (by unfold maxLen; omega) (by omega) rfl _ _ rfl rfl rfl ?_; intro q5 cap5 y3 o5 p5)
        have hA := HR2.out.app HG4.out.loose (v1 o5) p5 (by omega) (by omega) zY
        rw [← flat_take HG.out] at hA
        have hb5 := hbY.out.trans ((HB4.out.mono (by omega)).trans (p5.below (Nat.le_refl _) (by omega)))
        go_roundw
        case rel => exact ⟨j + 1, _, _, _, _, by omega, by omega, by go_num, rfl, hA, hb5, HC.out⟩
        case measure => simp [intOf]; omega
    · obtain rfl : j = n := by omega
      rw [List.take_of_length_le (Nat.le_of_eq hL.out)] at hr
      have HE := Lib.hid (join_ok (gs := gs) (by rw [hL.out]; exact HA.out))
      have KD := Lib.hid (spec_toData wr hr.sls HF.out)
      go_wp2_with fail
      go_at_call 26
      refine KD.out.mono ?_
      rintro e w2 ⟨ad2, n2, cap2, rfl, r2, b2⟩
      have HR2 := Lib.hid (r2.lo zb)
      have HB2 := Lib.hid (hb.trans (b2.mono zb))
      clear r2 b2
      go_wp2
      go_ret2
      exact ⟨ad2, n2, cap2, by rw [HR.out, HE.out]; rfl, by rw [HR.out, HE.out]; exact HR2.out, HB2.out⟩
end Go.Proofs.Ytkppkbafoeblhaa.GenW
namespace Go.Proofs.Ytkppkbafoeblhaa.GenW
open Go.ChangeShapes Go.WideShapes Go.ChangeAt Go.RowKit
open Go.Proofs.Ytkppkbafoeblhaa.Drawn Go.Proofs.Ytkppkbafoeblhaa.Seq Go.Proofs.Ytkppkbafoeblhaa.Help Go.Proofs.Ytkppkbafoeblhaa.Field Go.Proofs.Ytkppkbafoeblhaa.FieldW Go.Proofs.Ytkppkbafoeblhaa.Vec Go.Proofs.Ytkppkbafoeblhaa.VecW Go.Proofs.Ytkppkbafoeblhaa.Mat Go.Proofs.Ytkppkbafoeblhaa.MatW Go.Proofs.Ytkppkbafoeblhaa.RedW Go.Proofs.Ytkppkbafoeblhaa.Shape Go.Proofs.Ytkppkbafoeblhaa.Gen Go.Proofs.Ytkppkbafoeblhaa.Deep

theorem Sls.cut {w : World} {l h n cap : Nat} {A : Addr} {xss : List (List Int)} (s : Sls w l h (some A) n cap xss) (o m : Nat) (hm : o + m ≤ n) : Sls w l h (some (A.add o)) m (cap - o) ((xss.drop o).take m) :=
  ⟨by rw [List.length_take, List.length_drop, s.len]; omega, by have := s.le; omega, by have := s.big; omega, (fun e => by cases e), fun j xs hj => by
    have hjm : j < m := by have := (List.getElem?_eq_some_iff.1 hj).1; rw [List.length_take] at this; omega
    rw [List.getElem?_take, if_pos hjm, List.getElem?_drop] at hj
    obtain ⟨a, u, e, b1, b2, hc, hi⟩ := s.cells (o + j) xs hj
    obtain rfl := Option.some.inj e
    exact ⟨_, u, rfl, by rw [add_block]; exact b1, by rw [add_block]; exact b2, by rw [add_add]; exact hc, hi⟩⟩
theorem add_to {A : Addr} {o : Nat} (h : o ≠ 0) : A.add o = ⟨A.block, A.off + o, none⟩ := by unfold Addr.add; rw [if_neg h]
theorem part_cut {s m : Nat} {l : List (List Int)} {j : Nat} (hl : l.length = m) : Gen.part s l j = (l.drop (j * s)).take (min m (j * s + s) - j * s) := by
  unfold Gen.part
  by_cases h : j * s + s ≤ m
  · rw [Nat.min_eq_right h, Nat.add_sub_cancel_left]
  · rw [Nat.min_eq_left (by omega), List.take_of_length_le (by rw [List.length_drop]; omega), List.take_of_length_le (by rw [List.length_drop]; omega)]
theorem quo_mul (j s : Nat) (hs : 0 < s) : Int.tdiv ((j * s : Nat) : Int) (s : Int) = j := by
  rw [Int.natCast_mul, Int.mul_tdiv_cancel _ (by omega)]
theorem spec_min (w : World) (a b : Nat) : Calls Try.prog 59 #[.int .i64 a, .int .i64 b] w (Is (min a b : Nat) w) := by
  by_cases h : b < a
  · have HE := Lib.hid (Nat.min_eq_right (Nat.le_of_lt h))
    rw [HE.out]
    go_enter Try.func59, Try.ntmps59
    go_wp2
    go_ret
    exact ⟨rfl, rfl⟩
  · have HE := Lib.hid (Nat.min_eq_left (Nat.le_of_not_lt h))
    rw [HE.out]
    go_enter Try.func59, Try.ntmps59
    go_wp2
    go_ret
    exact ⟨rfl, rfl⟩
theorem cut_end {m s : Nat} (hs : 0 < s) {j : Nat} (h : ¬ j * s < m) (hj : j ≤ cuts s m) : j = cuts s m := by
  have : ¬ j < cuts s m := fun h' => h ((cuts_lt hs).1 h')
  omega
set_option maxRecDepth 100000 in
set_option maxHeartbeats 3200000 in
theorem spec_split (w : World) {l h : Nat} {ad : Option Addr} {n cap : Nat} {data : List Int} (s : Sl w l h .u8 ad n cap data) (W S F : Int) (h0 : -9223372036854775808 ≤ W) (h1 : W ≤ 9223372036854775807) (_ : -9223372036854775808 ≤ S) (_ : S ≤ 9223372036854775807) (_ : -9223372036854775808 ≤ F) (_ : F ≤ 9223372036854775807) :
    Calls Try.prog 16 #[.slice ad n cap, .int .i64 W, .int .i64 S, .int .i64 F] w (Ret (fun w l h u => GenerationSO w l h u (split data W S F)) w) := by
  have hb := below_box w (.cells #[] 34)
  have hz : (w.alloc (.cells #[] 34)).heap.size = w.heap.size + 1 := by simp
  have KT := Lib.hid (spec_toSym (w.alloc (.cells #[] 34)) (s.below hb (.inr (Nat.le_refl _))) W h0 h1)
  have I1 := Lib.hid (fun w' => l1In_is w' S 1 8)
  have I2 := Lib.hid (fun w' => l1In_is w' F 0 999999999590)
  have hsp : split data W S F = bif splitOk S F then (List.range (cuts S.toNat (toSym data W).length)).map fun (i : Nat) => (F + (i : Int), Gen.part S.toNat (toSym data W) i) else [] := rfl
  have hok : splitOk S F = ((decide (1 ≤ S) && decide (S ≤ 8)) && (decide (0 ≤ F) && decide (F ≤ 999999999590))) := rfl
  have hsm : (toSym data W).length ≤ 406 := by
    cases h : symOk W data.length
    · rw [toSym_no h]; exact Nat.zero_le _
    · exact (sym_most h).1
  have HEL : Hid (∀ xs ∈ toSym data W, xs.length ≤ 17592186044416) := Lib.hid fun xs hx => by
    cases h : symOk W data.length
    · rw [toSym_no h] at hx; simp at hx
    · have h2 := (sym_el h s.fits hx).2
      have h3 := symOk_iff.1 h
      omega
  clear s
  go_enter Try.func16, Try.ntmps16
  go_wp2_with fail
  go_at_call 33
  generalize w.alloc (.cells #[] 34) = D at *
  refine KT.out.mono ?_
  rintro e w2 ⟨adl, nl, capl, usl, rfl, rl, b2⟩
  have z2 := b2.size
  have HB2 := Lib.hid (hb.trans (b2.mono (by omega)))
  have HL := Lib.hid rl.sls
  have hll := rl.len
  have hcl := rl.out.le
  have hbl := rl.out.big
  unfold maxLen at hbl
  generalize hT : toSym data W = M at *
  have HT := Lib.hid hT
  clear rl b2 KT hb hT
  cases hS : (decide (1 ≤ S) && decide (S ≤ 8))
  · rw [hS] at I1 hok
    rw [hok] at hsp
    have HE := Lib.hid hsp
    clear hsp hok hS
    go_wp2_with fail
    go_at_call 57
    refine (I1.out _).mono ?_
    rintro e w' ⟨rfl, rfl⟩
    go_wp2
    go_ret
    rw [HE.out]
    exact ⟨_, rfl, (Grown.nil _ _ 34 tBas _).done (fun e => by cases e), HB2.out⟩
  rw [hS] at I1 hok
  cases hF : (decide (0 ≤ F) && decide (F ≤ 999999999590))
  · rw [hF] at I2 hok
    rw [hok] at hsp
    have HE := Lib.hid hsp
    clear hsp hok hS hF
    go_wp2_with fail
    go_at_call 57
    refine (I1.out _).mono ?_
    rintro e w' ⟨rfl, rfl⟩
    go_wp2_with fail
    go_at_call 57
    refine (I2.out _).mono ?_
    rintro e w' ⟨rfl, rfl⟩
    go_wp2
    go_ret
    rw [HE.out]
    exact ⟨_, rfl, (Grown.nil _ _ 34 tBas _).done (fun e => by cases e), HB2.out⟩
  rw [hF] at I2 hok
  rw [hok] at hsp
  simp only [Bool.and_eq_true, decide_eq_true_eq] at hS hF
  obtain ⟨sz, rfl⟩ : ∃ z : Nat, S = z := ⟨S.toNat, by omega⟩
  have hsz : 0 < sz ∧ sz ≤ 8 := by omega
  have hsp : split data W (sz : Int) F = (List.range (cuts sz M.length)).map fun (i : Nat) => (F + (i : Int), Gen.part sz M i) := hsp
  rw [hll] at hsp hsm
  have HE := Lib.hid hsp
  have hcut : Hid (∀ j, j < cuts sz nl ↔ j * sz < nl) := Lib.hid fun j => cuts_lt hsz.1
  clear hsp hok
  go_wp2_with fail
  go_at_call 57
  refine (I1.out _).mono ?_
  rintro e w' ⟨rfl, rfl⟩
  go_wp2_with fail
  go_at_call 57
  refine (I2.out _).mono ?_
  rintro e w' ⟨rfl, rfl⟩
  go_wp2
  go_loopw [11, 9] (fun i o wr => ∃ (j : Nat) (ad' : Option Addr) (cap' : Nat) (us : List Value), j ≤ cuts sz nl ∧ i = .int .i64 ((j * sz : Nat) : Int) ∧ o = .slice ad' j cap' ∧ Grown wr w2.heap.size 34 tBas ad' j cap' us ((List.range j).map fun (i : Nat) => (F + (i : Int), Gen.part sz M i)) ∧ (∀ g, ad' = some ⟨g, 0, none⟩ → g < wr.heap.size) ∧ (ad' = none → cap' = 0) ∧ Below w2.heap.size w2 wr) (fun i _ _ => nl + 8 - (intOf i).toNat)
  case atStart => exact ⟨0, _, 0, [], Nat.zero_le _, by simp, rfl, Grown.nil _ _ _ _ _, fun g e => by obtain rfl := (Addr.mk.inj (Option.some.inj e)).1; omega, (fun e => by cases e), Below.refl _ _⟩
  case round =>
    obtain ⟨j, ad', cap', us, hj, rfl, rfl, hr, hgr, hnr, hbr⟩ := hrel
    by_cases hlt : j * sz < nl
    case neg =>
      obtain rfl := cut_end hsz.1 hlt hj
      have HR := Lib.hid ((hr.done hnr).mono HB2.out.size (Nat.le_refl _))
      have HB := Lib.hid (HB2.out.trans (hbr.mono HB2.out.size))
      clear hr hgr hnr hbr
      go_wp2
      go_ret
      rw [HE.out]
      exact ⟨_, rfl, HR.out, HB.out⟩
    have hjc := (hcut.out j).2 hlt
    have hj406 : j ≤ 406 := by have := Nat.le_mul_of_pos_right j hsz.1; omega
    have hq1 := quo_mul j sz hsz.1
    have hnx : j * sz + sz = (j + 1) * sz := by rw [Nat.succ_mul]
    have HP := Lib.hid (part_cut (s := sz) (j := j) hll)
    obtain ⟨p, hp⟩ : ∃ p, p = j * sz := ⟨_, rfl⟩
    rw [← hp] at hlt hq1 hnx HP ⊢
    have HPE := Lib.hid hp
    clear hp
    obtain ⟨mn, hmn⟩ : ∃ mn, mn = min nl (p + sz) := ⟨_, rfl⟩
    have hm1 : p ≤ mn := by omega
    have hm2 : mn ≤ nl := by omega
    have zr := hbr.size
    have hzz := HB2.out.size
    obtain ⟨A, rfl⟩ : ∃ A, adl = some A := by
      obtain ⟨a, _, _, _, _, e, _⟩ := HL.out.at_ (j := 0) (by omega)
      exact ⟨a, e⟩
    rw [← hmn] at HP
    have sD := ((HL.out.below hbr (.inr (Nat.le_refl _))).drewN 1)
    have KM := Lib.hid (fun w' => spec_min w' nl (p + sz))
    rw [← hmn] at KM
    clear hmn
    have hcapne : ¬ capl = p := by omega
    have hw1 : IntKind.i64.wrap ((p : Int) / (sz : Int)) = (j : Int) := by rw [← Int.tdiv_eq_ediv_of_nonneg (by omega), hq1, IntKind.wrap_i64]; omega
    have hsz0 : ¬ sz = 0 := by omega
    have hcl2 : mn ≤ capl := by omega
    have hpl2 : (p : Int) ≤ (mn : Int) := by omega
    have hml2 : (mn : Int) ≤ (capl : Int) := by omega
    have hw2 : IntKind.i64.wrap (F + (j : Int)) = F + (j : Int) := by rw [IntKind.wrap_i64]; omega
    have hw3 : IntKind.i64.wrap ((p : Int) + (sz : Int)) = ((p + sz : Nat) : Int) := by rw [IntKind.wrap_i64]; omega
    have KC : Hid (Calls Try.prog 58 #[.slice (some (A.add p)) (mn - p) (capl - p)] wr.drew (Gives2 (Gen.part sz M j) wr.drew)) := by
      refine Lib.hid ?_
      rw [HP.out]
      refine spec_copy wr.drew (Sls.cut sD p (mn - p) (by omega)) (by omega) fun xs hx => HEL.out xs ?_
      exact List.mem_of_mem_drop (List.mem_of_mem_take hx)
    have HR := Lib.hid hr
    have Hgr := Lib.hid hgr
    have Hnr := Lib.hid hnr
    have HBr := Lib.hid hbr
    have hzS : (0 : Int) < (sz : Int) := by omega
    have HNX := Lib.hid hnx
    have hszne : ¬ ((sz : Int) = 0) := by omega
    generalize hPT : Gen.part sz M j = pt at *
    have HPT := Lib.hid hPT
    clear hr hgr hnr hbr sD hnx hPT hq1
    go_wp2
    refine wp_region_held (S := fun _ => True) (by kernel_rfl) ?_
    change wpAnyH _ _ _ _ _ _ _ _ wr.drew
    refine wpAnyH_take (i := 0) (oi := ⟨some 32, _, _, _, _, _⟩) (v := ?_) rfl (by kernel_rfl) (by kernel_rfl) (by kernel_rfl) (fun _ _ _ h => h) (Or.inl ⟨by rfl, ?_⟩) trivial ?_
    rotate_left
    · intro wS hSw
      try dsimp only at hSw
      go_simp
      all_goals (with_reducible rfl)
    simp only [Act.put, List.setIfInBounds_toArray, List.set_cons_zero, List.set_cons_succ]
    refine wpAnyH_take (i := 1) (oi := ⟨some 33, _, _, _, _, _⟩) (v := ?_) rfl (by kernel_rfl) (by kernel_rfl) (by kernel_rfl) (fun _ _ _ h => h) (Or.inl ⟨by rfl, ?_⟩) trivial ?_
    rotate_left
    · intro wS hSw
      try dsimp only at hSw
      go_simp
      all_goals (with_reducible rfl)
    simp only [Act.put, List.setIfInBounds_toArray, List.set_cons_zero, List.set_cons_succ]
    refine wpAnyH_take (i := 2) (oi := ⟨some 34, _, _, _, _, _⟩) (v := ?_) rfl (by kernel_rfl) (by kernel_rfl) (by kernel_rfl) (fun _ _ _ h => h) (Or.inl ⟨by rfl, ?_⟩) trivial ?_
    rotate_left
    · intro wS hSw
      try dsimp only at hSw
      go_simp
      all_goals (with_reducible rfl)
    simp only [Act.put, List.setIfInBounds_toArray, List.set_cons_zero, List.set_cons_succ]
    refine wpAnyH_take (i := 3) (oi := ⟨some 35, _, _, _, _, _⟩) (v := ?_) rfl (by kernel_rfl) (by kernel_rfl) (by kernel_rfl) (fun _ _ _ h => h) (Or.inl ⟨by rfl, ?_⟩) trivial ?_
    rotate_left
    · intro wS hSw
      try dsimp only at hSw
      go_simp
      all_goals (with_reducible rfl)
    simp only [Act.put, List.setIfInBounds_toArray, List.set_cons_zero, List.set_cons_succ]
    refine wpAnyH_take (i := 4) (oi := ⟨some 36, _, _, _, _, _⟩) (v := ?_) rfl (by kernel_rfl) (by kernel_rfl) (by kernel_rfl) (fun _ _ _ h => h) (Or.inl ⟨by rfl, ?_⟩) trivial ?_
    rotate_left
    · intro wS hSw
      try dsimp only at hSw
      go_simp
      all_goals (with_reducible rfl)
    simp only [Act.put, List.setIfInBounds_toArray, List.set_cons_zero, List.set_cons_succ]
    refine wpAnyH_take (i := 5) (oi := ⟨some 37, _, _, _, _, _⟩) (v := ?_) rfl (by kernel_rfl) (by kernel_rfl) (by kernel_rfl) (fun _ _ _ h => h) (Or.inl ⟨by rfl, ?_⟩) trivial ?_
    rotate_left
    · intro wS hSw
      try dsimp only at hSw
      go_simp
      all_goals (with_reducible rfl)
    simp only [Act.put, List.setIfInBounds_toArray, List.set_cons_zero, List.set_cons_succ]
    refine wpAnyH_take (i := 6) (oi := ⟨some 38, _, _, _, _, _⟩) (v := ?_) rfl (by kernel_rfl) (by kernel_rfl) (by kernel_rfl) (fun _ _ _ h => h) (Or.inl ⟨by rfl, ?_⟩) trivial ?_
    rotate_left
    · intro wS hSw
      try dsimp only at hSw
      go_simp
      all_goals (with_reducible rfl)
    simp only [Act.put, List.setIfInBounds_toArray, List.set_cons_zero, List.set_cons_succ]
    refine wpAnyH_take (i := 7) (oi := ⟨some 39, _, _, _, _, _⟩) (v := ?_) rfl (by kernel_rfl) (by kernel_rfl) (by kernel_rfl) (fun _ _ _ h => h) (Or.inl ⟨by rfl, ?_⟩) trivial ?_
    rotate_left
    · intro wS hSw
      try dsimp only at hSw
      go_simp
      all_goals (with_reducible rfl)
    simp only [Act.put, List.setIfInBounds_toArray, List.set_cons_zero, List.set_cons_succ]
    refine wpAnyH_take (i := 8) (oi := ⟨some 40, _, _, _, _, _⟩) (v := ?_) rfl (by kernel_rfl) (by kernel_rfl) (by kernel_rfl) (fun _ _ _ h => h) (Or.inl ⟨by rfl, ?_⟩) trivial ?_
    rotate_left
    · intro wS hSw
      try dsimp only at hSw
      go_simp
      all_goals (with_reducible rfl)
    simp only [Act.put, List.setIfInBounds_toArray, List.set_cons_zero, List.set_cons_succ]
    refine wpAnyH_take (i := 9) (oi := ⟨some 41, _, _, _, _, _⟩) (v := ?_) rfl (by kernel_rfl) (by kernel_rfl) (by kernel_rfl) (fun _ _ _ h => h) (Or.inl ⟨by rfl, ?_⟩) trivial ?_
    rotate_left
    · intro wS hSw
      try dsimp only at hSw
      go_simp
      all_goals (with_reducible rfl)
    simp only [Act.put, List.setIfInBounds_toArray, List.set_cons_zero, List.set_cons_succ]
    refine wpAnyH_take (i := 10) (oi := ⟨some 42, _, _, _, _, _⟩) (v := ?_) rfl (by kernel_rfl) (by kernel_rfl) (by kernel_rfl) (fun _ _ _ h => h) (Or.inl ⟨by rfl, ?_⟩) trivial ?_
    rotate_left
    · intro wS hSw
      try dsimp only at hSw
      go_simp
      all_goals (with_reducible rfl)
    simp only [Act.put, List.setIfInBounds_toArray, List.set_cons_zero, List.set_cons_succ]
    refine wpAnyH_take (i := 11) (oi := ⟨some 43, _, _, _, _, _⟩) (v := ?_) rfl (by kernel_rfl) (by kernel_rfl) (by kernel_rfl) (fun _ _ _ h => h) (Or.inl ⟨by rfl, ?_⟩) trivial ?_
    rotate_left
    · intro wS hSw
      try dsimp only at hSw
      go_simp
      all_goals (with_reducible rfl)
    simp only [Act.put, List.setIfInBounds_toArray, List.set_cons_zero, List.set_cons_succ]
    refine wpAnyH_take (i := 12) (oi := ⟨some 44, _, _, _, _, _⟩) (v := ?_) rfl (by kernel_rfl) (by kernel_rfl) (by kernel_rfl) (fun _ _ _ h => h) (Or.inl ⟨by rfl, ?_⟩) trivial ?_
    rotate_left
    · intro wS hSw
      try dsimp only at hSw
      go_simp
      all_goals (with_reducible rfl)
    simp only [Act.put, List.setIfInBounds_toArray, List.set_cons_zero, List.set_cons_succ]
    refine wpAnyH_ready (rs := [13]) (by kernel_rfl) (by simp) ?_
    refine AllReadyH.cons (o := ⟨some 45, _, _, _, _, _⟩) rfl (fun Kq hKq => ?_) AllReadyH.nil
    go_simp
    refine (KM.out _).mono ?_
    rintro e w' ⟨rfl, rfl⟩
    refine hKq.out _ _ trivial (fun _ => ?_)
    clear hKq Kq
    try simp only [Act.put, List.setIfInBounds_toArray, List.set_cons_zero, List.set_cons_succ]
    refine wpAnyH_take (i := 14) (oi := ⟨some 46, _, _, _, _, _⟩) (v := ?_) rfl (by kernel_rfl) (by kernel_rfl) (by kernel_rfl) (fun _ _ _ h => h) (Or.inl ⟨by rfl, ?_⟩) trivial ?_
    rotate_left
    · intro wS hSw
      try dsimp only at hSw
      go_simp
      all_goals (with_reducible rfl)
    simp only [Act.put, List.setIfInBounds_toArray, List.set_cons_zero, List.set_cons_succ]
    refine wpAnyH_ready (rs := [15]) (by kernel_rfl) (by simp) ?_
    refine AllReadyH.cons (o := ⟨some 47, _, _, _, _, _⟩) rfl (fun Kq hKq => ?_) AllReadyH.nil
    go_simp
    refine (KC.out).mono ?_
    rintro e w5 ⟨ad3, n3, cap3, us3, rfl, r3, b3⟩
    refine hKq.out _ _ trivial (fun _ => ?_)
    clear hKq Kq
    try simp only [Act.put, List.setIfInBounds_toArray, List.set_cons_zero, List.set_cons_succ]
    refine wpAnyH_take (i := 16) (oi := ⟨some 48, _, _, _, _, _⟩) (v := ?_) rfl (by kernel_rfl) (by kernel_rfl) (by kernel_rfl) (fun _ _ _ h => h) (Or.inl ⟨by rfl, ?_⟩) trivial ?_
    rotate_left
    · intro wS hSw
      try dsimp only at hSw
      go_simp
      all_goals (with_reducible rfl)
    simp only [Act.put, List.setIfInBounds_toArray, List.set_cons_zero, List.set_cons_succ]
    refine wpAnyH_ready (rs := [17]) (by kernel_rfl) (by simp) ?_
    refine AllReadyH.cons (o := ⟨some 49, _, _, _, _, _⟩) rfl (fun Kq hKq => ?_) AllReadyH.nil
    go_simp
    have z5 := b3.size
    have hzd : wr.drew.heap.size = wr.heap.size := rfl
    rw [hzd] at r3 b3 z5
    have hb5 : Below wr.heap.size wr w5 := (Below.refl _ wr).drew.trans b3
    have ho5 : Own w5 wr.heap.size w5.heap.size tBas [.int .i64 (F + (j : Int)), .slice ad3 n3 cap3] (F + (j : Int), pt) := (net_own r3.net).num (fits_i64.2 (by omega))
    have hbT := below_box w5 (.cells #[.int .i64 (F + (j : Int)), .slice ad3 n3 cap3] 34)
    have hzT : (w5.alloc (.cells #[.int .i64 (F + (j : Int)), .slice ad3 n3 cap3] 34)).heap.size = w5.heap.size + 1 := by simp
    have hoT := ho5.below hbT (.inl (Nat.le_refl _))
    have hWT : Whole (w5.alloc (.cells #[.int .i64 (F + (j : Int)), .slice ad3 n3 cap3] 34)) w5.heap.size 34 [.int .i64 (F + (j : Int)), .slice ad3 n3 cap3] := ⟨heap_alloc_new w5 _⟩
    generalize w5.alloc (.cells #[.int .i64 (F + (j : Int)), .slice ad3 n3 cap3] 34) = T5 at *
    have hbw : Below wr.heap.size wr T5 := hb5.trans (hbT.mono z5)
    have HG5 := Lib.hid (HR.out.below hbw)
    have hsrc : ∀ i v, [Value.int .i64 (F + (j : Int)), .slice ad3 n3 cap3][i]? = some v → T5.cell? ((⟨w5.heap.size, 0, none⟩ : Addr).add i) = some v := fun i v hv => by
      rw [Addr.add_lit, Nat.zero_add]; exact hWT.cell hv
    refine hKq.out _ _ trivial (fun _ => ?_)
    clear hKq Kq
    try simp only [Act.put, List.setIfInBounds_toArray, List.set_cons_zero, List.set_cons_succ]
    refine wpAnyH_ready (rs := [18]) (by kernel_rfl) (by simp) ?_
    refine AllReadyH.cons (o := ⟨some 50, _, _, _, _, _⟩) rfl (fun Kq hKq => ?_) AllReadyH.nil
    refine step_snocK (K := 2) (by decide) HG5.out.1 (A := ⟨w5.heap.size, 0, none⟩) (vs := [.int .i64 (F + (j : Int)), .slice ad3 n3 cap3]) rfl hsrc (by simp [Value.oneCell']) Try.underlying26 info_Generation rfl (by unfold maxLen; omega) (by omega) rfl _ _ rfl rfl rfl ?_
    intro g6 cap6 w6 k6 p6
    refine hKq.out _ _ trivial (fun _ => ?_)
    clear hKq Kq
    try simp only [Act.put, List.setIfInBounds_toArray, List.set_cons_zero, List.set_cons_succ]
    refine wpAnyH_take (i := 19) (oi := ⟨some 9, _, _, _, _, _⟩) (v := ?_) rfl (by kernel_rfl) (by kernel_rfl) (by kernel_rfl) (fun _ _ _ h => h) (Or.inl ⟨by rfl, ?_⟩) trivial ?_
    rotate_left
    · intro wS hSw
      try dsimp only at hSw
      go_simp
      all_goals (with_reducible rfl)
    simp only [Act.put, List.setIfInBounds_toArray, List.set_cons_zero, List.set_cons_succ]
    refine wpAnyH_done (by kernel_rfl) ?_ _
    have z6 := p6.size
    have hnew := Grown.snoc (a := wr.heap.size) (b := w5.heap.size) (w0 := wr) (x := (F + (j : Int), pt)) HR.out hbw hoT (Nat.le_refl _) z5 (by omega) zr Hgr.out k6 p6
    have hgl : g6 < w6.heap.size := by
      obtain ⟨_, e', _, h'⟩ := k6.lt.pos (by omega)
      obtain rfl := (Addr.mk.inj (Option.some.inj e')).1
      exact h'
    have hlo : Below w2.heap.size w2 w6 := by
      have h1 : Below w2.heap.size w2 T5 := HBr.out.trans (hbw.mono zr)
      rcases p6 with ⟨e1, g1, g2, g3, m6⟩ | ⟨_, b6⟩
      · exact h1.trans (m6.below g1 (by have := h1.size; omega))
      · exact h1.trans (b6.mono (by have := h1.size; omega))
    have HNW := Lib.hid hnew
    have HLO := Lib.hid hlo
    have e9 : (List.range (j + 1)).map (fun (i : Nat) => (F + (i : Int), Gen.part sz M i)) = (List.range j).map (fun (i : Nat) => (F + (i : Int), Gen.part sz M i)) ++ [(F + (j : Int), pt)] := by
      rw [List.range_succ, List.map_append, List.map_singleton, HPT.out]
    have H9 := Lib.hid e9
    clear e9 hnew hlo k6 p6 hoT ho5 hbT hWT hsrc hb5 hbw r3 b3
    go_wp2
    go_roundw
    case rel =>
      refine ⟨j + 1, some ⟨g6, 0, none⟩, cap6, us ++ [.int .i64 (F + (j : Int)), .slice ad3 n3 cap3], by omega, ?_, rfl, ?_, fun g e => ?_, (fun e => by cases e), HLO.out⟩
      · rw [← HNX.out]; simp
      · rw [H9.out]; exact HNW.out
      · obtain rfl := (Addr.mk.inj (Option.some.inj e)).1
        exact hgl
    case measure => simp [intOf]; omega
end Go.Proofs.Ytkppkbafoeblhaa.GenW
namespace Go.Proofs.Ytkppkbafoeblhaa.GenW
open Go.ChangeShapes Go.WideShapes Go.ChangeAt Go.RowKit
open Go.Proofs.Ytkppkbafoeblhaa.Seq Go.Proofs.Ytkppkbafoeblhaa.Help Go.Proofs.Ytkppkbafoeblhaa.FieldW Go.Proofs.Ytkppkbafoeblhaa.Vec Go.Proofs.Ytkppkbafoeblhaa.Mat Go.Proofs.Ytkppkbafoeblhaa.Shape Go.Proofs.Ytkppkbafoeblhaa.Gen Go.Proofs.Ytkppkbafoeblhaa.Deep

def IsGenOp : Prop := ∀ (w : World) {l h : Nat} {v : Value} {g : Bs} (_ : GenerationI w l h v g) (_ : GenerationF g), Calls Try.prog 19 #[v] w (Says (.bool (isGen g)) w)
def ToSymOp : Prop := ∀ (w : World) {l h : Nat} {v : Value} {xs : List Int} (_ : ByteSI w l h v xs) (_ : ByteSF xs) (W : Int) (_ : -9223372036854775808 ≤ W) (_ : W ≤ 9223372036854775807), Calls Try.prog 23 #[v, .int .i64 W] w (Ret (fun w l h u => IntSSO w l h u (toSym xs W)) w)
def ToDataOp : Prop := ∀ (w : World) {l h : Nat} {v : Value} {m : List (List Int)} (_ : IntSSI w l h v m) (_ : IntSSF m), Calls Try.prog 25 #[v] w (RetB (fun w l h u => ByteSO w l h u (toData m).1) (toData m).2 w)
def SplitOp : Prop := ∀ (w : World) {l h : Nat} {v : Value} {xs : List Int} (_ : ByteSI w l h v xs) (_ : ByteSF xs) (W : Int) (_ : -9223372036854775808 ≤ W) (_ : W ≤ 9223372036854775807) (S : Int) (_ : -9223372036854775808 ≤ S) (_ : S ≤ 9223372036854775807) (F : Int) (_ : -9223372036854775808 ≤ F) (_ : F ≤ 9223372036854775807),
  Calls Try.prog 15 #[v, .int .i64 W, .int .i64 S, .int .i64 F] w (Ret (fun w l h u => GenerationSO w l h u (split xs W S F)) w)
def JoinOp : Prop := ∀ (w : World) {l h : Nat} {v : Value} {gs : List Bs} (_ : GenerationSI w l h v gs) (_ : GenerationSF gs), Calls Try.prog 17 #[v] w (RetB (fun w l h u => ByteSO w l h u (join gs).1) (join gs).2 w)
def SizeOp : Prop := ∀ (w : World) {l h : Nat} {v : Value} {g : Bs} (_ : GenerationI w l h v g) (_ : GenerationF g), Calls Try.prog 21 #[v] w (Says (.int .i64 g.2.length) w)
def WidthOp : Prop := ∀ (w : World) {l h : Nat} {v : Value} {g : Bs} (_ : GenerationI w l h v g) (_ : GenerationF g), Calls Try.prog 20 #[v] w (Says (.int .i64 (colsOf g.2)) w)
def EqGenOp : Prop := ∀ (w : World) {l h l2 h2 : Nat} {v v2 : Value} {g g2 : Bs} (_ : GenerationI w l h v g) (_ : GenerationF g) (_ : GenerationI w l2 h2 v2 g2) (_ : GenerationF g2), Calls Try.prog 52 #[v, v2] w (Says (.bool (sameG g g2)) w)
theorem Sz_app (a b : List (List Int)) : Sz tIss (a ++ b) = Sz tIss a + Sz tIss b := by
  show (a ++ b).length + ((a ++ b).map (Sz tIs)).sum = (a.length + (a.map (Sz tIs)).sum) + (b.length + (b.map (Sz tIs)).sum)
  rw [List.length_append, List.map_append, List.sum_append]; omega
theorem Sz_flat : ∀ gs : List G2, Sz tIss (gs.flatMap (·.2)) ≤ Sz (.l tBas) gs
  | [] => Nat.le_refl _
  | g :: gs => by
    have h := Sz_flat gs
    have e1 : Sz (.l tBas) gs = gs.length + (gs.map (Sz tBas)).sum := rfl
    have e2 : Sz (.l tBas) (g :: gs) = (g :: gs).length + ((g :: gs).map (Sz tBas)).sum := rfl
    have e3 : Sz tBas g = 0 + Sz tIss g.2 := rfl
    rw [List.map_cons, List.sum_cons, List.length_cons] at e2
    rw [List.flatMap_cons, Sz_app]
    omega
theorem flat_fit {gs : List Bs} (h : GenerationSF gs) : Small (gs.flatMap (·.2)) := small_of (Nat.le_trans (Sz_flat gs) h)
theorem len_fit {gs : List Bs} (h : GenerationSF gs) : gs.length ≤ 1048576 := by
  have e1 : Sz (.l tBas) gs = gs.length + (gs.map (Sz tBas)).sum := rfl
  unfold GenerationSF at h
  omega
theorem rd_gens {w : World} {l h : Nat} {v : Value} {gs : List Bs} (r : GenerationSI w l h v gs) : ∃ ad n cap, v = .slice ad n cap ∧ Gens w l h ad n cap gs := by
  obtain ⟨ad, n, cap, e, h1, h2, h3, h4, -, h6⟩ := r
  simp at e
  refine ⟨ad, n, cap, e, h1, h2, h3, h4, fun j g hg => ?_⟩
  obtain ⟨a, es, ea, r⟩ := h6 j g hg
  have hl := r.len
  have hc := fun (i : Nat) (c : Value) (hc : es[i]? = some c) => r.cell hc
  obtain ⟨c1, c2, e1, ⟨f1, f2, f3⟩, r2⟩ := r
  subst f1
  obtain ⟨a2, n2, cap2, g1, -⟩ := id r2
  subst g1
  simp only [List.singleton_append] at e1
  subst e1
  have k0 := hc 0 _ rfl
  have k1 := hc 1 _ rfl
  change l ≤ ((a.add (j * 2)).add 0).block ∧ ((a.add (j * 2)).add 0).block < h ∧ w.cell? ((a.add (j * 2)).add 0) = _ at k0
  change l ≤ ((a.add (j * 2)).add 1).block ∧ ((a.add (j * 2)).add 1).block < h ∧ w.cell? ((a.add (j * 2)).add 1) = _ at k1
  rw [Addr.add_add] at k0 k1
  rw [Nat.add_zero] at k0
  rw [add_block] at k0 k1
  exact ⟨a, _, ea, k0.1, k0.2.1, k0.2.2, k1.2.2, fits_i64.1 f2, rd_ISS r2⟩
section
variable {l h l2 h2 : Nat} {v v2 : Value} {g g2 : Bs} {xs : List Int} {m : List (List Int)} {gs : List Bs}
theorem isGenS (w : World) (s : GenerationI w l h v g) (_ : GenerationF g) : Calls Try.prog 30 #[v] w (Says (.bool (isGen g)) w) := spec_isGen w s
theorem toSymS (w : World) (s : ByteSI w l h v xs) (_ : ByteSF xs) (W : Int) (h0 : -9223372036854775808 ≤ W) (h1 : W ≤ 9223372036854775807) : Calls Try.prog 33 #[v, .int .i64 W] w (Ret (fun w l h u => IntSSO w l h u (toSym xs W)) w) := by
  obtain ⟨_, _, _, rfl, s⟩ := s
  refine (spec_toSym w s W h0 h1).mono ?_
  rintro e w' ⟨ad, n, cap, us, rfl, g, b⟩
  exact ⟨_, rfl, ⟨_, _, _, _, rfl, g.net⟩, b⟩
theorem toDataS (w : World) (s : IntSSI w l h v m) (f : IntSSF m) : Calls Try.prog 26 #[v] w (RetB (fun w l h u => ByteSO w l h u (toData m).1) (toData m).2 w) := by
  obtain ⟨_, _, _, rfl, s⟩ := s
  refine (spec_toData w s f).mono ?_
  rintro e w' ⟨ad, n, cap, rfl, r, b⟩
  exact ⟨_, rfl, row_own r, b⟩
theorem splitS (w : World) (s : ByteSI w l h v xs) (_ : ByteSF xs) (W : Int) (h0 : -9223372036854775808 ≤ W) (h1 : W ≤ 9223372036854775807) (S : Int) (h2 : -9223372036854775808 ≤ S) (h3 : S ≤ 9223372036854775807) (F : Int) (h4 : -9223372036854775808 ≤ F) (h5 : F ≤ 9223372036854775807) :
    Calls Try.prog 16 #[v, .int .i64 W, .int .i64 S, .int .i64 F] w (Ret (fun w l h u => GenerationSO w l h u (split xs W S F)) w) := by
  obtain ⟨_, _, _, rfl, s⟩ := s
  exact spec_split w s W S F h0 h1 h2 h3 h4 h5
theorem joinS (w : World) (s : GenerationSI w l h v gs) (f : GenerationSF gs) : Calls Try.prog 47 #[v] w (RetB (fun w l h u => ByteSO w l h u (join gs).1) (join gs).2 w) := by
  obtain ⟨_, _, _, rfl, t⟩ := rd_gens s
  refine (spec_join w t (by rw [← t.len]; exact len_fit f) (flat_fit f)).mono ?_
  rintro e w' ⟨ad, n, cap, rfl, r, b⟩
  exact ⟨_, rfl, row_own r, b⟩
theorem sizeS (w : World) (s : GenerationI w l h v g) (_ : GenerationF g) : Calls Try.prog 49 #[v] w (Says (.int .i64 g.2.length) w) := spec_genSize w s
theorem widthS (w : World) (s : GenerationI w l h v g) (_ : GenerationF g) : Calls Try.prog 50 #[v] w (Says (.int .i64 (colsOf g.2)) w) := spec_symWidth w s
theorem eqGenS (w : World) (s : GenerationI w l h v g) (f : GenerationF g) (s2 : GenerationI w l2 h2 v2 g2) (_ : GenerationF g2) : Calls Try.prog 51 #[v, v2] w (Says (.bool (sameG g g2)) w) :=
  spec_eqGen w s s2 fun xs hx => by have := Small.each f xs hx; omega
end
end Go.Proofs.Ytkppkbafoeblhaa.GenW
namespace Go.Proofs.Ytkppkbafoeblhaa.GenW
open Go.ChangeShapes Go.WideShapes Go.ChangeAt Go.RowKit
open Go.Proofs.Ytkppkbafoeblhaa.Seq Go.Proofs.Ytkppkbafoeblhaa.Help Go.Proofs.Ytkppkbafoeblhaa.FieldW Go.Proofs.Ytkppkbafoeblhaa.Vec Go.Proofs.Ytkppkbafoeblhaa.Mat Go.Proofs.Ytkppkbafoeblhaa.Shape Go.Proofs.Ytkppkbafoeblhaa.Gen Go.Proofs.Ytkppkbafoeblhaa.Deep

theorem toData_none {m : List (List Int)} (h : (toData m).2 = false) : (toData m).1 = [] := by
  unfold toData at h ⊢
  cases e1 : m.flatten.all Gen.isByte
  · rfl
  rw [e1] at h
  simp only [cond_true] at h ⊢
  cases e2 : (Rd.rdv m.flatten 0).2.2 && decide ((Rd.rdv m.flatten 0).1 ≤ m.flatten.length - (Rd.rdv m.flatten 0).2.1)
  · rfl
  rw [e2] at h
  simp only [cond_true] at h ⊢
  by_cases e3 : toSym ((m.flatten.drop (Rd.rdv m.flatten 0).2.1.toNat).take (Rd.rdv m.flatten 0).1.toNat) (colsOf m) = m
  · rw [decide_eq_true e3] at h
    simp at h
  · rw [decide_eq_false e3]; rfl
theorem toData_small (m : List (List Int)) : (toData m).1.length ≤ 400 := by
  cases h : (toData m).2
  · rw [toData_none h]; exact Nat.zero_le _
  · have e : toData m = ((toData m).1, true) := Prod.ext rfl h
    have h2 := toData_back e
    cases hs : symOk (colsOf m) (toData m).1.length
    · rw [toSym_no hs] at h2
      rw [← h2] at h
      exact absurd h (by decide)
    · exact (symOk_iff.1 hs).2
theorem fit_data (m : List (List Int)) : ByteSF (toData m).1 := Nat.le_trans (toData_small m) (by decide)
theorem join_small (gs : List Bs) : (join gs).1.length ≤ 400 := by
  unfold join
  cases chain gs gs.length
  · exact Nat.zero_le _
  · exact toData_small _
theorem fit_join (gs : List Bs) : ByteSF (join gs).1 := Nat.le_trans (join_small gs) (by decide)
theorem toSym_each {d : List Int} {W : Int} : ∀ r ∈ toSym d W, r.length ≤ 16 := by
  intro r hr
  cases h : symOk W d.length
  · rw [toSym_no h] at hr; cases hr
  · obtain ⟨⟨h1, h2⟩, h3⟩ := symOk_iff.1 h
    rw [toSym_ok h] at hr
    have := sym_row hr
    omega
theorem toSym_len {d : List Int} {W : Int} : (toSym d W).length ≤ 406 := by
  cases h : symOk W d.length
  · rw [toSym_no h]; exact Nat.zero_le _
  · exact (sym_most h).1
theorem fit_sym (d : List Int) (W : Int) : IntSSF (toSym d W) := ⟨Nat.le_trans toSym_len (by decide), fun r hr => Nat.le_trans (toSym_each r hr) (by decide)⟩
theorem Sz_flat2 : ∀ gs : List G2, Sz (.l tBas) gs = gs.length + Sz tIss (gs.flatMap (·.2))
  | [] => rfl
  | g :: gs => by
    have h := Sz_flat2 gs
    have e1 : Sz (.l tBas) gs = gs.length + (gs.map (Sz tBas)).sum := rfl
    have e2 : Sz (.l tBas) (g :: gs) = (g :: gs).length + ((g :: gs).map (Sz tBas)).sum := rfl
    have e3 : Sz tBas g = 0 + Sz tIss g.2 := rfl
    rw [List.map_cons, List.sum_cons, List.length_cons] at e2
    rw [List.flatMap_cons, Sz_app, List.length_cons]
    omega
theorem split_flat (d : List Int) (W S F : Int) : ∃ k, (split d W S F).length ≤ 406 ∧ (split d W S F).flatMap (·.2) = (toSym d W).take k := by
  unfold split
  cases h : splitOk S F
  · exact ⟨0, by simp, by simp⟩
  · refine ⟨cuts S.toNat (toSym d W).length * S.toNat, ?_, ?_⟩
    · have hm := toSym_len (d := d) (W := W)
      obtain ⟨⟨h1, h2⟩, -⟩ := splitOk_iff.1 h
      simp only [cond_true, List.length_map, List.length_range]
      have hs : 0 < S.toNat := by omega
      rcases Nat.lt_or_ge 406 (cuts S.toNat (toSym d W).length) with h3 | h3
      · have h4 := (cuts_lt hs).1 h3
        have := Nat.le_mul_of_pos_right 406 hs
        omega
      · exact h3
    · simp only [cond_true]
      rw [← part_take, List.flatMap_map, List.flatMap_def]
theorem fit_split (d : List Int) (W S F : Int) : GenerationSF (split d W S F) := by
  obtain ⟨k, h1, h2⟩ := split_flat d W S F
  have e1 := Sz_flat2 (split d W S F)
  have e2 := Sz_app ((toSym d W).take k) ((toSym d W).drop k)
  rw [List.take_append_drop] at e2
  rw [h2] at e1
  rw [Sz_ISS (xss := toSym d W)] at e2
  have e3 := sumLen_most (toSym_each (d := d) (W := W))
  have e4 := toSym_len (d := d) (W := W)
  unfold GenerationSF
  omega
end Go.Proofs.Ytkppkbafoeblhaa.GenW
