/-
  Matrices, of the program: the number of columns, valid matrices, identities, and what is made of a matrix row by row.
-/
import Derived.Test.YthhnfbhpdcemfaaMatOps
import Derived.Test.YthhnfbhpdcemfaaVecI
namespace Go.Proofs.Ythhnfbhpdcemfaa.MatI
open Go.ChangeShapes Go.WideShapes Go.ChangeAt Go.RowKit
open Go.Proofs.Ythhnfbhpdcemfaa.Seq Go.Proofs.Ythhnfbhpdcemfaa.Help Go.Proofs.Ythhnfbhpdcemfaa.Field Go.Proofs.Ythhnfbhpdcemfaa.FieldW Go.Proofs.Ythhnfbhpdcemfaa.Vec Go.Proofs.Ythhnfbhpdcemfaa.VecW Go.Proofs.Ythhnfbhpdcemfaa.VecOps Go.Proofs.Ythhnfbhpdcemfaa.Mat Go.Proofs.Ythhnfbhpdcemfaa.MatW Go.Proofs.Ythhnfbhpdcemfaa.MatOps

theorem over_z {xs ms : List Int} {n j : Nat} {x : Int} (hl : xs.length = n) (hm : ms.length = n) (hj : j < n) (hx : ms[j]? = some x) : (ms.take j ++ xs.drop j).set j x = ms.take (j + 1) ++ xs.drop (j + 1) := over2 hl hm hj hx
theorem isMat_bad {m : List (List Int)} {ys : List Int} {j : Nat} (hj : m[j]? = some ys) (h : (Vec.isVec ys && (ys.length == colsOf m)) = false) : Mat.isMat m = false := by
  have h1 : okRows (colsOf m) m = false := by
    unfold okRows
    rw [List.all_eq_false]; exact ⟨ys, List.mem_of_getElem? hj, by rw [h]; simp⟩
  unfold Mat.isMat; rw [h1]; rfl

theorem cols_is (w : World) {l h : Nat} {ad : Option Addr} {n cap : Nat} {m : List (List Int)} (s : Sls w l h ad n cap m) :
    Calls Try.prog 33 #[.slice ad n cap] w (Is (colsOf m) w) := by
  have hbig := s.big
  have hcap := s.le
  unfold maxLen at hbig
  by_cases hn0 : n = 0
  · subst hn0
    have hx0 : m = [] := List.eq_nil_of_length_eq_zero s.len
    subst hx0
    go_enter Try.func33, Try.ntmps33
    go_wp2
    go_ret
    exact ⟨rfl, rfl⟩
  · have hn00 : ((n : Int) == 0) = false := by simp; omega
    obtain ⟨a, ad0, n0, cap0, x0, rfl, hx0, hc0⟩ := s.at_ (j := 0) (by omega)
    rw [add_0] at hc0
    have H0 := Lib.hid ((colsOf_get hx0.get).trans hx0.sl.len)
    clear hx0
    rw [H0.out]
    go_enter Try.func33, Try.ntmps33
    go_wp2
    go_ret
    exact ⟨rfl, rfl⟩
theorem cols : ColsOp := fun w _ _ _ _ _ _ s _ _ => (cols_is w s).mono is_below

set_option maxRecDepth 100000 in
theorem isMat_is (w : World) {l h : Nat} {ad : Option Addr} {n cap : Nat} {m : List (List Int)} (s : Sls w l h ad n cap m) :
    Calls Try.prog 26 #[.slice ad n cap] w (IsB (Mat.isMat m) w) := by
  have hbig := s.big
  have hcap := s.le
  unfold maxLen at hbig
  have HL := Lib.hid s.len
  by_cases hl : 40 < n
  · have HE := Lib.hid (show Mat.isMat m = false from by unfold Mat.isMat; rw [decide_eq_false (by rw [HL.out]; omega), Bool.and_false])
    rw [HE.out]
    go_enter Try.func26, Try.ntmps26
    go_wp2
    go_ret
    exact ⟨rfl, rfl⟩
  have KC := Lib.hid (cols_is w s)
  go_enter Try.func26, Try.ntmps26
  go_wp2
  go_loop [10] (fun i => ∃ j : Nat, j ≤ n ∧ i = .int .i64 j ∧ Hid (∀ y ∈ m.take j, (Vec.isVec y && (y.length == colsOf m)) = true)) (fun i => n - (intOf i).toNat)
  case atStart => exact ⟨0, Nat.zero_le _, rfl, fun y hy => by simp at hy⟩
  case round =>
    obtain ⟨j, hj, rfl, HOK⟩ := hrel
    by_cases hlt : j < n
    · obtain ⟨a1, ad3, n3, cap3, xs, rfl, hx, hc⟩ := s.at_ hlt
      have hle3 := hx.sl.le
      have hbg3 := hx.sl.big
      unfold maxLen at hbg3
      have HX := Lib.hid hx.get
      have L3 := Lib.hid hx.sl.len
      have hV := VecI.isVec_is w hx.sl
      clear hx
      obtain ⟨c, hcc⟩ : ∃ c, c = colsOf m := ⟨_, rfl⟩
      have HCC := Lib.hid hcc
      clear hcc
      rw [← HCC.out] at KC
      by_cases hl3 : n3 = c
      case neg =>
        have HE := Lib.hid (isMat_bad HX.out (by rw [L3.out, ← HCC.out]; simp [hl3]))
        have hl4 : ((n3 : Int) == (c : Int)) = false := by simp; omega
        have hl5 : ((n3 : Int) != (c : Int)) = true := by simp; omega
        clear hl3 hV
        rw [HE.out]
        go_wp2_with fail
        go_at_call 33
        refine KC.out.mono ?_
        rintro e w' ⟨rfl, rfl⟩
        go_wp2
        go_ret
        exact ⟨rfl, rfl⟩
      subst hl3
      cases hvx : Vec.isVec xs
      · rw [hvx] at hV
        have HV := Lib.hid hV
        have HE := Lib.hid (isMat_bad HX.out (by rw [hvx]; rfl))
        clear hV hvx
        rw [HE.out]
        go_wp2_with fail
        go_at_call 33
        refine KC.out.mono ?_
        rintro e w' ⟨rfl, rfl⟩
        go_wp2_with fail
        go_at_call 58
        refine HV.out.mono ?_
        rintro e w' ⟨rfl, rfl⟩
        go_wp2
        go_ret
        exact ⟨rfl, rfl⟩
      · rw [hvx] at hV
        have HV := Lib.hid hV
        have HMore := Lib.hid (rows_more HX.out HOK.out (by rw [L3.out, ← HCC.out, hvx]; simp))
        clear hV hvx
        go_wp2_with fail
        go_at_call 33
        refine KC.out.mono ?_
        rintro e w' ⟨rfl, rfl⟩
        go_wp2_with fail
        go_at_call 58
        refine HV.out.mono ?_
        rintro e w' ⟨rfl, rfl⟩
        go_wp2
        go_round
        case rel => exact ⟨j + 1, by omega, by go_num, HMore.out⟩
        case measure => simp [intOf]; omega
    · obtain rfl : j = n := by omega
      have HE := Lib.hid (isMat_all HL.out rfl HOK.out)
      go_wp2
      go_ret
      exact ⟨by rw [HE.out]; simp; omega, rfl⟩
theorem isMat : IsMatOp := fun w _ _ _ _ _ _ s _ _ => (isMat_is w s).mono isB_below

theorem identity_ok {n : Int} (h : (decide (0 ≤ n) && decide (n ≤ 40)) = true) : ∃ k : Nat, k ≤ 40 ∧ n = k ∧ identity n = (List.range k).map (fun (i : Nat) => unit k i) := by
  simp only [Bool.and_eq_true, decide_eq_true_eq] at h
  obtain ⟨k, hk, he, hh⟩ := identity_is n
  obtain rfl : n = k := by omega
  exact ⟨k, hk, rfl, he⟩
theorem identity_no {n : Int} (h : (decide (0 ≤ n) && decide (n ≤ 40)) = false) : identity n = [] := by
  simp only [Bool.and_eq_false_iff, decide_eq_false_iff_not] at h
  obtain ⟨k, hk, he, hh⟩ := identity_is n
  obtain rfl : k = 0 := by omega
  rw [he]; rfl
set_option maxRecDepth 100000 in
theorem identity : IdOp := fun w n hn0 hn1 => by
  have h1 := inRange_is w n 0 40
  cases hp : (decide (0 ≤ n) && decide (n ≤ 40))
  · rw [hp] at h1
    rw [identity_no hp]
    have H1 := Lib.hid h1
    clear h1 hp
    go_enter Try.func21, Try.ntmps21
    go_wp2_with fail
    go_at_call 56
    refine H1.out.mono ?_
    rintro e w' ⟨rfl, rfl⟩
    go_wp2
    go_ret
    exact ⟨_, _, _, _, rfl, Grid.nil _ _ _ _ _ _, (Below.refl _ _).alloc (Nat.le_refl _) _⟩
  rw [hp] at h1
  obtain ⟨k, hk, rfl, he⟩ := identity_ok hp
  rw [he]
  have H1 := Lib.hid h1
  clear h1 hp he
  have hyl : ((List.range k).map fun (i : Nat) => unit k i).length = k := by simp
  have hyg : ∀ j, j < k → ((List.range k).map fun (i : Nat) => unit k i)[j]? = some (unit k j) := fun j hj => by simp [hj]
  generalize ((List.range k).map fun (i : Nat) => unit k i) = yss at *
  go_enter Try.func21, Try.ntmps21
  go_wp2_with fail
  go_at_call 56
  refine H1.out.mono ?_
  rintro e w' ⟨rfl, rfl⟩
  go_wp2_with (at_make; refine wpList_mkV (n := k) Try.underlying24 info_ints rfl rfl (by unfold maxLen; omega) (by omega) rfl _ _ rfl rfl rfl ?_; intro w1 hr1 hb1)
  have hcol := Grid.made (e := 3) hr1
  rw [show List.replicate k ([] : List Int) = yss.take 0 ++ (List.replicate k []).drop 0 by simp] at hcol
  go_loopw [13] (fun i wr => ∃ (j : Nat) (us : List Value), j ≤ k ∧ i = .int .i64 j ∧ Grid wr w.heap.size wr.heap.size 3 30 (some ⟨w.heap.size, 0, none⟩) k k us (yss.take j ++ (List.replicate k []).drop j) ∧ Below w.heap.size w wr) (fun i _ => k - (intOf i).toNat)
  case atStart => exact ⟨0, _, Nat.zero_le _, rfl, hcol, hb1⟩
  case round =>
    obtain ⟨j, us, hj, rfl, hr, hb⟩ := hrel
    by_cases hlt : j < k
    · go_wp2_with fail
      go_at_call 57
      refine (VecI.unit _ (k : Int) (j : Int) (by omega) (by omega) (by omega) (by omega)).mono ?_
      rintro e w2 ⟨ad3, n3, cap3, rfl, r3, b3⟩
      have z3 := b3.size
      have zb := hb.size
      have hgz := (hr.out.pos (by omega))
      have hold := fun (i b : Nat) (v : Value) (hv : us[i]? = some v) (hb : blockOf v = some b) => (hr.block hv hb).2.2
      replace hr := (hr.below b3 (.inr (Nat.le_refl _))).mono z3
      have hnew := fun (b : Nat) (hb : blockOf (.slice ad3 n3 cap3) = some b) => ((OwnInts.of r3).block hb).1
      have hput := hr.put hlt ((OwnInts.of r3).lo zb) (fun b hb => by
        obtain ⟨g, e1, _, e2⟩ := hgz
        obtain rfl := (Addr.mk.inj (Option.some.inj e1)).1
        have := hnew b hb
        omega) (fun i v b _ hv hb hb' => by
        have h1 := hold i b v hv hb
        have h2 := hnew b hb'
        omega)
      rw [over2 (n := k) (by simp) hyl hlt (hyg j hlt)] at hput
      obtain ⟨u0, _, hc0, hf0⟩ := hr.out.there hlt
      have HP := Lib.hid hput
      have hb2 := Lib.hid (hb.trans (b3.mono zb))
      clear hput hr hold hnew b3 r3
      go_wp2
      go_roundw
      case rel => exact ⟨j + 1, _, by omega, by go_num, HP.out.1.lt, hb2.out.trans (HP.out.2.below (Nat.le_refl _) hb2.out.size)⟩
      case measure => simp [intOf]; omega
    · obtain rfl : j = k := by omega
      rw [List.take_of_length_le (Nat.le_of_eq hyl), List.drop_eq_nil_of_le (by simp), List.append_nil] at hr
      have HG := Lib.hid hr
      clear hr
      go_wp2
      go_ret
      exact ⟨_, _, _, _, rfl, HG.out, hb⟩

set_option maxRecDepth 100000 in
theorem mapTranspose (w : World) {l h : Nat} {ad : Option Addr} {n cap : Nat} {m : List (List Int)} (s : Sls w l h ad n cap m) (hn : n ≤ 1048576) (p : Value) (f : List Int → Int)
    (H : ∀ (w' : World) (ad3 : Option Addr) (n3 cap3 : Nat) (xs : List Int), Below w.heap.size w w' → xs ∈ m → Sl w' l h .i64 ad3 n3 cap3 xs → Fits .i64 (f xs) ∧ Calls Try.prog 55 #[.slice ad3 n3 cap3, p] w' (SaysI (f xs) w')) :
    Calls Try.prog 54 #[.slice ad n cap, .func (.func 55) #[] #[p]] w (Gives .i64 3 (m.map f) w) := by
  have hcap := s.le
  have hyl : (m.map f).length = n := by rw [List.length_map]; exact s.len
  have hyg : ∀ (j : Nat) (xs : List Int), m[j]? = some xs → (m.map f)[j]? = some (f xs) := fun j xs hj => by simp [hj]
  generalize m.map f = ys at *
  go_enter Try.func54, Try.ntmps54
  go_wp2_with (at_make; refine wpList_mk (n := n) Try.underlying53 info_int (fits_i64.2 (by omega)) (by unfold maxLen; omega) (by omega) rfl _ _ rfl rfl rfl ?_; intro w1 hr1 hb1)
  rw [show List.replicate n (0 : Int) = ys.take 0 ++ (List.replicate n 0).drop 0 by simp] at hr1
  go_loopw [13] (fun i wr => ∃ (j : Nat), j ≤ n ∧ i = .int .i64 j ∧ Row wr w.heap.size wr.heap.size .i64 3 (some ⟨w.heap.size, 0, none⟩) n n (ys.take j ++ (List.replicate n 0).drop j) ∧ Below w.heap.size w wr) (fun i _ => n - (intOf i).toNat)
  case atStart => exact ⟨0, Nat.zero_le _, rfl, hr1, hb1⟩
  case round =>
    obtain ⟨j, hj, rfl, hr, hb⟩ := hrel
    by_cases hlt : j < n
    · obtain ⟨a, ad2, n2, cap2, xs, rfl, hx, hc⟩ := (s.below hb (.inr (Nat.le_refl _))).at_ hlt
      obtain ⟨hf, hcall⟩ := H wr ad2 n2 cap2 xs hb (List.mem_of_getElem? hx.get) hx.sl
      have HO := Lib.hid (over_z (n := n) (xs := List.replicate n 0) (by simp) hyl hlt (hyg j xs hx.get))
      have HC := Lib.hid hcall
      generalize f xs = y at *
      clear hcall hx
      go_wp2_with fail
      go_at_call 55
      refine HC.out.mono ?_
      rintro e w2 ⟨rfl, b3⟩
      have z3 := b3.size
      have zb := hb.size
      replace hr := (hr.below b3 (.inr (Nat.le_refl _))).mono z3
      obtain ⟨y0, _, _, hc0, hf0⟩ := hr.there hlt
      have hput := hr.set hlt hf
      rw [HO.out] at hput
      have HP := Lib.hid hput
      have hb2 := Lib.hid (hb.trans (b3.mono zb))
      clear hput hr b3
      go_wp2
      go_roundw
      case rel => exact ⟨j + 1, by omega, by go_num, HP.out.1.lt, hb2.out.trans (HP.out.2.below (Nat.le_refl _) hb2.out.size)⟩
      case measure => simp [intOf]; omega
    · obtain rfl : j = n := by omega
      rw [List.take_of_length_le (Nat.le_of_eq hyl), List.drop_eq_nil_of_le (by simp), List.append_nil] at hr
      have HG := Lib.hid hr
      clear hr
      go_wp2
      go_ret
      exact ⟨_, _, _, rfl, HG.out, hb⟩
set_option maxRecDepth 100000 in
theorem mapMulMatrixVector (w : World) {l h : Nat} {ad : Option Addr} {n cap : Nat} {m : List (List Int)} (s : Sls w l h ad n cap m) (hn : n ≤ 1048576) (p : Value) (f : List Int → Int)
    (H : ∀ (w' : World) (ad3 : Option Addr) (n3 cap3 : Nat) (xs : List Int), Below w.heap.size w w' → xs ∈ m → Sl w' l h .i64 ad3 n3 cap3 xs → Fits .i64 (f xs) ∧ Calls Try.prog 59 #[.slice ad3 n3 cap3, p] w' (SaysI (f xs) w')) :
    Calls Try.prog 54 #[.slice ad n cap, .func (.func 59) #[] #[p]] w (Gives .i64 3 (m.map f) w) := by
  have hcap := s.le
  have hyl : (m.map f).length = n := by rw [List.length_map]; exact s.len
  have hyg : ∀ (j : Nat) (xs : List Int), m[j]? = some xs → (m.map f)[j]? = some (f xs) := fun j xs hj => by simp [hj]
  generalize m.map f = ys at *
  go_enter Try.func54, Try.ntmps54
  go_wp2_with (at_make; refine wpList_mk (n := n) Try.underlying53 info_int (fits_i64.2 (by omega)) (by unfold maxLen; omega) (by omega) rfl _ _ rfl rfl rfl ?_; intro w1 hr1 hb1)
  rw [show List.replicate n (0 : Int) = ys.take 0 ++ (List.replicate n 0).drop 0 by simp] at hr1
  go_loopw [13] (fun i wr => ∃ (j : Nat), j ≤ n ∧ i = .int .i64 j ∧ Row wr w.heap.size wr.heap.size .i64 3 (some ⟨w.heap.size, 0, none⟩) n n (ys.take j ++ (List.replicate n 0).drop j) ∧ Below w.heap.size w wr) (fun i _ => n - (intOf i).toNat)
  case atStart => exact ⟨0, Nat.zero_le _, rfl, hr1, hb1⟩
  case round =>
    obtain ⟨j, hj, rfl, hr, hb⟩ := hrel
    by_cases hlt : j < n
    · obtain ⟨a, ad2, n2, cap2, xs, rfl, hx, hc⟩ := (s.below hb (.inr (Nat.le_refl _))).at_ hlt
      obtain ⟨hf, hcall⟩ := H wr ad2 n2 cap2 xs hb (List.mem_of_getElem? hx.get) hx.sl
      have HO := Lib.hid (over_z (n := n) (xs := List.replicate n 0) (by simp) hyl hlt (hyg j xs hx.get))
      have HC := Lib.hid hcall
      generalize f xs = y at *
      clear hcall hx
      go_wp2_with fail
      go_at_call 59
      refine HC.out.mono ?_
      rintro e w2 ⟨rfl, b3⟩
      have z3 := b3.size
      have zb := hb.size
      replace hr := (hr.below b3 (.inr (Nat.le_refl _))).mono z3
      obtain ⟨y0, _, _, hc0, hf0⟩ := hr.there hlt
      have hput := hr.set hlt hf
      rw [HO.out] at hput
      have HP := Lib.hid hput
      have hb2 := Lib.hid (hb.trans (b3.mono zb))
      clear hput hr b3
      go_wp2
      go_roundw
      case rel => exact ⟨j + 1, by omega, by go_num, HP.out.1.lt, hb2.out.trans (HP.out.2.below (Nat.le_refl _) hb2.out.size)⟩
      case measure => simp [intOf]; omega
    · obtain rfl : j = n := by omega
      rw [List.take_of_length_le (Nat.le_of_eq hyl), List.drop_eq_nil_of_le (by simp), List.append_nil] at hr
      have HG := Lib.hid hr
      clear hr
      go_wp2
      go_ret
      exact ⟨_, _, _, rfl, HG.out, hb⟩

set_option maxRecDepth 100000 in
theorem mapMulMatrices (w : World) {l h : Nat} {ad : Option Addr} {n cap : Nat} {m : List (List Int)} (s : Sls w l h ad n cap m) (hn : n ≤ 1048576) (p : Value) (f : List Int → List Int)
    (H : ∀ (w' : World) (ad3 : Option Addr) (n3 cap3 : Nat) (xs : List Int), Below w.heap.size w w' → xs ∈ m → Sl w' l h .i64 ad3 n3 cap3 xs → Calls Try.prog 51 #[.slice ad3 n3 cap3, p] w' (Gives .i64 3 (f xs) w')) :
    Calls Try.prog 50 #[.slice ad n cap, .func (.func 51) #[] #[p]] w (Gives2 (m.map f) w) := by
  have hcap := s.le
  have hyl : (m.map f).length = n := by rw [List.length_map]; exact s.len
  have hyg : ∀ (j : Nat) (xs : List Int), m[j]? = some xs → (m.map f)[j]? = some (f xs) := fun j xs hj => by simp [hj]
  generalize m.map f = yss at *
  go_enter Try.func50, Try.ntmps50
  go_wp2_with (at_make; refine wpList_mkV (n := n) Try.underlying50 info_ints rfl rfl (by unfold maxLen; omega) (by omega) rfl _ _ rfl rfl rfl ?_; intro w1 hr1 hb1)
  have hcol := Grid.made (e := 3) hr1
  rw [show List.replicate n ([] : List Int) = yss.take 0 ++ (List.replicate n []).drop 0 by simp] at hcol
  go_loopw [13] (fun i wr => ∃ (j : Nat) (us : List Value), j ≤ n ∧ i = .int .i64 j ∧ Grid wr w.heap.size wr.heap.size 3 30 (some ⟨w.heap.size, 0, none⟩) n n us (yss.take j ++ (List.replicate n []).drop j) ∧ Below w.heap.size w wr) (fun i _ => n - (intOf i).toNat)
  case atStart => exact ⟨0, _, Nat.zero_le _, rfl, hcol, hb1⟩
  case round =>
    obtain ⟨j, us, hj, rfl, hr, hb⟩ := hrel
    by_cases hlt : j < n
    · obtain ⟨a, ad2, n2, cap2, xs, rfl, hx, hc⟩ := (s.below hb (.inr (Nat.le_refl _))).at_ hlt
      have HC := Lib.hid (H wr ad2 n2 cap2 xs hb (List.mem_of_getElem? hx.get) hx.sl)
      have HO := Lib.hid (over2 (n := n) (xs := List.replicate n []) (by simp) hyl hlt (hyg j xs hx.get))
      generalize f xs = y at *
      clear hx
      go_wp2_with fail
      go_at_call 51
      refine HC.out.mono ?_
      rintro e w2 ⟨ad3, n3, cap3, rfl, r3, b3⟩
      have z3 := b3.size
      have zb := hb.size
      have hgz := (hr.out.pos (by omega))
      have hold := fun (i b : Nat) (v : Value) (hv : us[i]? = some v) (hb : blockOf v = some b) => (hr.block hv hb).2.2
      replace hr := (hr.below b3 (.inr (Nat.le_refl _))).mono z3
      have hnew := fun (b : Nat) (hb : blockOf (.slice ad3 n3 cap3) = some b) => ((OwnInts.of r3).block hb).1
      have hput := hr.put hlt ((OwnInts.of r3).lo zb) (fun b hb => by
        obtain ⟨g, e1, _, e2⟩ := hgz
        obtain rfl := (Addr.mk.inj (Option.some.inj e1)).1
        have := hnew b hb
        omega) (fun i v b _ hv hb hb' => by
        have h1 := hold i b v hv hb
        have h2 := hnew b hb'
        omega)
      rw [HO.out] at hput
      obtain ⟨u0, _, hc0, hf0⟩ := hr.out.there hlt
      have HP := Lib.hid hput
      have hb2 := Lib.hid (hb.trans (b3.mono zb))
      clear hput hr hold hnew b3 r3
      go_wp2
      go_roundw
      case rel => exact ⟨j + 1, _, by omega, by go_num, HP.out.1.lt, hb2.out.trans (HP.out.2.below (Nat.le_refl _) hb2.out.size)⟩
      case measure => simp [intOf]; omega
    · obtain rfl : j = n := by omega
      rw [List.take_of_length_le (Nat.le_of_eq hyl), List.drop_eq_nil_of_le (by simp), List.append_nil] at hr
      have HG := Lib.hid hr
      clear hr
      go_wp2
      go_ret
      exact ⟨_, _, _, _, rfl, HG.out, hb⟩

set_option maxRecDepth 100000 in
theorem mapVandermonde (w : World) {l h : Nat} {ad : Option Addr} {n cap : Nat} {ps : List Int} (s : Sl w l h .i64 ad n cap ps) (hn : n ≤ 1048576) (p : Value) (f : Int → List Int)
    (H : ∀ (w' : World) (x : Int), Below w.heap.size w w' → x ∈ ps → Calls Try.prog 62 #[.int .i64 x, p] w' (Gives .i64 3 (f x) w')) :
    Calls Try.prog 61 #[.slice ad n cap, .func (.func 62) #[] #[p]] w (Gives2 (ps.map f) w) := by
  have hcap := s.le
  have hyl : (ps.map f).length = n := by rw [List.length_map]; exact s.len
  have hyg : ∀ (j : Nat) (x : Int), ps[j]? = some x → (ps.map f)[j]? = some (f x) := fun j x hj => by simp [hj]
  generalize ps.map f = yss at *
  go_enter Try.func61, Try.ntmps61
  go_wp2_with (at_make; refine wpList_mkV (n := n) Try.underlying50 info_ints rfl rfl (by unfold maxLen; omega) (by omega) rfl _ _ rfl rfl rfl ?_; intro w1 hr1 hb1)
  have hcol := Grid.made (e := 3) hr1
  rw [show List.replicate n ([] : List Int) = yss.take 0 ++ (List.replicate n []).drop 0 by simp] at hcol
  go_loopw [13] (fun i wr => ∃ (j : Nat) (us : List Value), j ≤ n ∧ i = .int .i64 j ∧ Grid wr w.heap.size wr.heap.size 3 30 (some ⟨w.heap.size, 0, none⟩) n n us (yss.take j ++ (List.replicate n []).drop j) ∧ Below w.heap.size w wr) (fun i _ => n - (intOf i).toNat)
  case atStart => exact ⟨0, _, Nat.zero_le _, rfl, hcol, hb1⟩
  case round =>
    obtain ⟨j, us, hj, rfl, hr, hb⟩ := hrel
    by_cases hlt : j < n
    · obtain ⟨a, x, rfl, hx, hc⟩ := (s.below hb (.inr (Nat.le_refl _))).at_ hlt
      have HC := Lib.hid (H wr x hb (List.mem_of_getElem? hx.get))
      have HO := Lib.hid (over2 (n := n) (xs := List.replicate n []) (by simp) hyl hlt (hyg j x hx.get))
      generalize f x = y at *
      clear hx
      go_wp2_with fail
      go_at_call 62
      refine HC.out.mono ?_
      rintro e w2 ⟨ad3, n3, cap3, rfl, r3, b3⟩
      have z3 := b3.size
      have zb := hb.size
      have hgz := (hr.out.pos (by omega))
      have hold := fun (i b : Nat) (v : Value) (hv : us[i]? = some v) (hb : blockOf v = some b) => (hr.block hv hb).2.2
      replace hr := (hr.below b3 (.inr (Nat.le_refl _))).mono z3
      have hnew := fun (b : Nat) (hb : blockOf (.slice ad3 n3 cap3) = some b) => ((OwnInts.of r3).block hb).1
      have hput := hr.put hlt ((OwnInts.of r3).lo zb) (fun b hb => by
        obtain ⟨g, e1, _, e2⟩ := hgz
        obtain rfl := (Addr.mk.inj (Option.some.inj e1)).1
        have := hnew b hb
        omega) (fun i v b _ hv hb hb' => by
        have h1 := hold i b v hv hb
        have h2 := hnew b hb'
        omega)
      rw [HO.out] at hput
      obtain ⟨u0, _, hc0, hf0⟩ := hr.out.there hlt
      have HP := Lib.hid hput
      have hb2 := Lib.hid (hb.trans (b3.mono zb))
      clear hput hr hold hnew b3 r3
      go_wp2
      go_roundw
      case rel => exact ⟨j + 1, _, by omega, by go_num, HP.out.1.lt, hb2.out.trans (HP.out.2.below (Nat.le_refl _) hb2.out.size)⟩
      case measure => simp [intOf]; omega
    · obtain rfl : j = n := by omega
      rw [List.take_of_length_le (Nat.le_of_eq hyl), List.drop_eq_nil_of_le (by simp), List.append_nil] at hr
      have HG := Lib.hid hr
      clear hr
      go_wp2
      go_ret
      exact ⟨_, _, _, _, rfl, HG.out, hb⟩
end Go.Proofs.Ythhnfbhpdcemfaa.MatI
