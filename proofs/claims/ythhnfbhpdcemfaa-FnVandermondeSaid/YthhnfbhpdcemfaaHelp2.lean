/-
  The exact laws' own helpers over slices of slices: a copy, a comparison, marking, asking for the stamps, measuring.
-/
import Derived.Test.YthhnfbhpdcemfaaHelp
import Derived.Test.YthhnfbhpdcemfaaNest
namespace Go.Proofs.Ythhnfbhpdcemfaa.Help
open Go.ChangeShapes Go.WideShapes Go.ChangeAt Go.RowKit
open Go.Proofs.Ythhnfbhpdcemfaa.Seq

theorem info_ints : (Try.prog.info? 30).map (fun i => (i.zero, i.size, i.bytes)) = some (some (.slice none 0 0), 1, 24) := by kernel_rfl

/-- How many numbers there are. -/
def sumLen (xss : List (List Int)) : Nat := (xss.map List.length).sum
theorem sumLen_take {xss : List (List Int)} {j : Nat} {xs : List Int} (h : xss[j]? = some xs) : sumLen (xss.take (j + 1)) = sumLen (xss.take j) + xs.length := by
  unfold sumLen
  rw [List.take_add_one, h]; simp
theorem sumLen_le (xss : List (List Int)) (j : Nat) : sumLen (xss.take j) ≤ sumLen xss := by
  unfold sumLen
  conv => rhs; rw [← List.take_append_drop j xss, List.map_append, List.sum_append]
  exact Nat.le_add_right _ _
theorem sumLen_most {xss : List (List Int)} {B : Nat} (h : ∀ xs ∈ xss, xs.length ≤ B) : sumLen xss ≤ xss.length * B := by
  unfold sumLen
  induction xss with
  | nil => simp
  | cons xs xss ih =>
    have h1 := ih fun ys hy => h ys (by simp [hy])
    have h2 := h xs (by simp)
    simp only [List.map_cons, List.sum_cons, List.length_cons, Nat.add_mul, Nat.one_mul]
    omega
theorem len_le {xss : List (List Int)} {j : Nat} {xs : List Int} (h : xss[j]? = some xs) : xs.length ≤ sumLen xss := by
  have := sumLen_le xss (j + 1)
  rw [sumLen_take h] at this; omega

/-- What marking leaves. -/
def stampss (m : Int) (xss : List (List Int)) : List (List Int) := (List.range xss.length).map fun j => stamps .i64 (m + sumLen (xss.take j)) (xss[j]?.getD []).length
theorem stampss_len (m : Int) (xss : List (List Int)) : (stampss m xss).length = xss.length := by simp [stampss]
theorem stampss_get {m : Int} {xss : List (List Int)} {j : Nat} {xs : List Int} (h : xss[j]? = some xs) : (stampss m xss)[j]? = some (stamps .i64 (m + sumLen (xss.take j)) xs.length) := by
  have hj := (List.getElem?_eq_some_iff.1 h).1
  simp [stampss, hj, (List.getElem?_eq_some_iff.1 h).2]
theorem stampss_sum (m : Int) (xss : List (List Int)) : sumLen (stampss m xss) = sumLen xss := by
  have h : (stampss m xss).map List.length = xss.map List.length := by
    apply List.ext_getElem?
    intro j
    rw [List.getElem?_map, List.getElem?_map]
    cases h : xss[j]? with
    | none => rw [List.getElem?_eq_none (by rw [stampss_len]; exact List.getElem?_eq_none_iff.1 h)]
    | some xs => rw [stampss_get h]; simp [stamps_len]
  unfold sumLen; rw [h]

theorem over2 {α : Type} {xs ms : List α} {n j : Nat} {x : α} (hl : xs.length = n) (hm : ms.length = n) (hj : j < n) (hx : ms[j]? = some x) : (ms.take j ++ xs.drop j).set j x = ms.take (j + 1) ++ xs.drop (j + 1) := by
  apply List.ext_getElem?
  intro i
  have hxl := (List.getElem?_eq_some_iff.1 hx).2
  rw [List.getElem?_set]
  by_cases h1 : i < j
  · rw [if_neg (by omega), List.getElem?_append_left (by simp; omega), List.getElem?_append_left (by simp; omega), List.getElem?_take, List.getElem?_take, if_pos h1, if_pos (by omega)]
  · by_cases h2 : j = i
    · subst h2
      rw [if_pos rfl, if_pos (by simp; omega), List.getElem?_append_left (by simp; omega), List.getElem?_take, if_pos (by omega), hx]
    · rw [if_neg h2, List.getElem?_append_right (by simp; omega), List.getElem?_append_right (by simp; omega), List.getElem?_drop, List.getElem?_drop]
      simp only [List.length_take]
      congr 1
      omega
theorem at_drop {α : Type} {xs ms : List α} {n j : Nat} (hm : ms.length = n) (hj : j < n) : (ms.take j ++ xs.drop j)[j]? = xs[j]? := by
  rw [List.getElem?_append_right (by simp; omega), List.getElem?_drop, List.length_take, Nat.min_eq_left (by omega), Nat.sub_self, Nat.add_zero]

theorem set_same {α : Type} {xs : List α} {j : Nat} {x : α} (h : xs[j]? = some x) : xs.set j x = xs := by
  apply List.ext_getElem?
  intro i
  rw [List.getElem?_set]
  by_cases hij : j = i
  · subst hij; rw [if_pos rfl, if_pos (List.getElem?_eq_some_iff.1 h).1, h]
  · rw [if_neg hij]

/-- A new slice of slices that reads as xss. -/
def Gives2 (xss : List (List Int)) (w : World) (e : Ending) (w' : World) : Prop :=
  ∃ ad n cap us, e = .returned (.slice ad n cap) ∧ Grid w' w.heap.size w'.heap.size 3 30 ad n cap us xss ∧ Below w.heap.size w w'

theorem toSS (w : World) {l h : Nat} {ad : Option Addr} {n cap : Nat} {xss : List (List Int)} (s : Sls w l h ad n cap xss) (hn : n ≤ 1099511627776) (hr : ∀ xs ∈ xss, xs.length ≤ 17592186044416) :
    Calls Try.prog 31 #[.slice ad n cap] w (Gives2 xss w) := by
  have hcap := s.le
  have HR := Lib.hid hr
  clear hr
  go_enter Try.func31, Try.ntmps31
  go_wp2_with (at_make; refine wpList_mkV Try.underlying24 info_ints rfl rfl (by unfold maxLen; omega) (by omega) rfl _ _ rfl rfl rfl ?_; intro w1 hr1 hb1)
  have hcol := Grid.made (e := 3) hr1
  rw [show List.replicate n ([] : List Int) = xss.take 0 ++ (List.replicate n []).drop 0 by simp] at hcol
  go_loopw [4] (fun i wr => ∃ (j : Nat) (us : List Value), j ≤ n ∧ i = .int .i64 j ∧ Grid wr w.heap.size wr.heap.size 3 30 (some ⟨w.heap.size, 0, none⟩) n n us (xss.take j ++ (List.replicate n []).drop j) ∧ Below w.heap.size w wr) (fun i _ => n - (intOf i).toNat)
  case atStart => exact ⟨0, _, Nat.zero_le _, rfl, hcol, hb1⟩
  case round =>
    obtain ⟨j, us, hj, rfl, hr, hb⟩ := hrel
    by_cases hlt : j < n
    · obtain ⟨a, ad2, n2, cap2, xs, rfl, hx, hc⟩ := (s.below hb (.inr (Nat.le_refl _))).at_ hlt
      have hn2 : n2 ≤ 17592186044416 := by rw [← hx.sl.len]; exact HR.out _ (List.mem_of_getElem? hx.get)
      go_wp2_with fail
      go_at_call 40
      refine (toI _ hx.sl hn2).mono ?_
      rintro e w2 ⟨ad3, n3, cap3, rfl, r3, b3⟩
      have z3 := b3.size
      have zb := hb.size
      have hgz := (hr.out.pos (by omega))
      have hold := fun (i b : Nat) (v : Value) (hv : us[i]? = some v) (hb : blockOf v = some b) => (hr.block hv hb).2.2
      replace hr := (hr.below b3 (.inr (Nat.le_refl _))).mono z3
      have hnew := fun (b : Nat) (hb : blockOf (.slice ad3 n3 cap3) = some b) => ((OwnInts.of r3).block hb).1
      have hput := hr.put hlt ((OwnInts.of r3).lo zb) (fun b hb => by
        obtain ⟨g, e1, _, e2⟩ := hgz
        obtain rfl := (Addr.mk.inj (Option.some.inj e1)).1
        have := hnew b hb
        omega) (fun i v b _ hv hb hb' => by
        have h1 := hold i b v hv hb
        have h2 := hnew b hb'
        omega)
      rw [over2 (n := n) (by simp) s.len hlt hx.get] at hput
      obtain ⟨u0, _, hc0, hf0⟩ := hr.out.there hlt
      have HP := Lib.hid hput
      have hb2 := Lib.hid (hb.trans (b3.mono zb))
      clear hput hr hold hnew b3 r3
      go_wp2
      go_roundw
      case rel => exact ⟨j + 1, _, by omega, by go_num, HP.out.1.lt, hb2.out.trans (HP.out.2.below (Nat.le_refl _) hb2.out.size)⟩
      case measure => simp [intOf]; omega
    · obtain rfl : j = n := by omega
      rw [List.take_of_length_le (Nat.le_of_eq s.len), List.drop_eq_nil_of_le (by simp), List.append_nil] at hr
      have HG := Lib.hid hr
      clear hr
      go_wp2
      go_ret
      exact ⟨_, _, _, _, rfl, HG.out, hb⟩

theorem differ2 {α : Type} {xs ys : List α} {j : Nat} {x y : α} (hx : xs[j]? = some x) (hy : ys[j]? = some y) (h : xs = ys) : x = y := by
  subst h; rw [hx] at hy; exact Option.some.inj hy

theorem eqSSQ (w : World) {l h l2 h2 : Nat} {ad ad2 : Option Addr} {n cap n2 cap2 : Nat} {xss yss : List (List Int)} (s : Sls w l h ad n cap xss) (s2 : Sls w l2 h2 ad2 n2 cap2 yss) (hn : n ≤ 1099511627776) (hr : ∀ xs ∈ xss, xs.length ≤ 17592186044416) (he : xss = yss) :
    Calls Try.prog 32 #[.slice ad n cap, .slice ad2 n2 cap2] w fun e w' => e = .returned (.bool true) ∧ ∃ q, w' = w.drewN q := by
  obtain rfl : n = n2 := by rw [← s.len, ← s2.len, he]
  have HE := Lib.hid he
  have HR := Lib.hid hr
  clear he hr
  go_enter Try.func32, Try.ntmps32
  go_wp2
  go_loopw [5] (fun i wr => ∃ j q : Nat, j ≤ n ∧ i = .int .i64 j ∧ wr = w.drewN q) (fun i _ => n - (intOf i).toNat)
  case atStart => exact ⟨0, 0, Nat.zero_le _, rfl, rfl⟩
  case round =>
    obtain ⟨j, q, hj, rfl, hq⟩ := hrel
    have t := hq ▸ s.drewN q
    have t2 := hq ▸ s2.drewN q
    have HQ := Lib.hid hq
    clear hq
    by_cases hlt : j < n
    · obtain ⟨a, ad3, n3, cap3, x, rfl, hx, hc⟩ := t.at_ hlt
      obtain ⟨a2, ad4, n4, cap4, y, rfl, hy, hc2⟩ := t2.at_ hlt
      obtain rfl := differ2 hx.get hy.get HE.out
      have hn3 : n3 ≤ 17592186044416 := by rw [← hx.sl.len]; exact HR.out _ (List.mem_of_getElem? hx.get)
      go_wp2
      go_quiet (exact Calls.quiet_of (eqIQ _ (hx.sl.drewN _) (hy.sl.drewN _) hn3 rfl))
      go_wp2
      go_roundw
      case rel => exact ⟨j + 1, _, by omega, by go_num, by rw [HQ.out, World.drewN_drewN]⟩
      case measure => simp [intOf]; omega
    · go_wp2
      go_ret
      exact ⟨rfl, q, HQ.out⟩
theorem eqSS (w : World) {l h l2 h2 : Nat} {ad ad2 : Option Addr} {n cap n2 cap2 : Nat} {xss yss : List (List Int)} (s : Sls w l h ad n cap xss) (s2 : Sls w l2 h2 ad2 n2 cap2 yss) (hn : n ≤ 1099511627776) (hr : ∀ xs ∈ xss, xs.length ≤ 17592186044416) (he : xss = yss) :
    Calls Try.prog 32 #[.slice ad n cap, .slice ad2 n2 cap2] w fun e w' => e = .returned (.bool true) ∧ Below w.heap.size w w' :=
  (eqSSQ w s s2 hn hr he).mono fun _ _ ⟨a, q, b⟩ => ⟨a, b ▸ below_drewN (Below.refl _ _) q⟩
/-- Marking a slice without elements does nothing. -/
theorem markI0 (w : World) (ad : Option Addr) (cap : Nat) (m : Int) :
    Calls Try.prog 42 #[.slice ad 0 cap, .int .i64 m] w fun e w' => e = .returned (.int .i64 m) ∧ w = w' := by
  go_enter Try.func42, Try.ntmps42
  go_wp2
  go_loopw [5, 1] (fun i kk wr => i = .int .i64 0 ∧ kk = .int .i64 m ∧ w = wr) (fun _ _ _ => 0)
  case atStart => exact ⟨rfl, rfl, rfl⟩
  case round =>
    obtain ⟨rfl, rfl, rfl⟩ := hrel
    go_wp2
    go_ret
    exact ⟨rfl, rfl⟩
theorem markSS (w : World) {l h : Nat} {ad : Option Addr} {n cap : Nat} {us : List Value} {xss : List (List Int)} (r : Grid w l h 3 30 ad n cap us xss) (hn : n ≤ 1099511627776) (hS : sumLen xss ≤ 17592186044416) (m : Int) (hm0 : 0 ≤ m) (hm1 : m ≤ 100000000000000000) :
    Calls Try.prog 35 #[.slice ad n cap, .int .i64 m] w fun e w' => e = .returned (.int .i64 (m + sumLen xss)) ∧ Grid w' l h 3 30 ad n cap us (stampss m xss) ∧ Mv w w' l h := by
  go_enter Try.func35, Try.ntmps35
  go_wp2
  go_loopw [5, 1] (fun i kk wr => ∃ j : Nat, j ≤ n ∧ i = .int .i64 j ∧ kk = .int .i64 (m + sumLen (xss.take j)) ∧ Grid wr l h 3 30 ad n cap us ((stampss m xss).take j ++ xss.drop j) ∧ Mv w wr l h) (fun i _ _ => n - (intOf i).toNat)
  case atStart => exact ⟨0, Nat.zero_le _, rfl, by simp [sumLen], by simpa using r, Mv.refl _ _ _⟩
  case round =>
    obtain ⟨j, hj, rfl, rfl, hr, hb⟩ := hrel
    by_cases hlt : j < n
    · obtain ⟨u, xs, hu, hxs, ho⟩ := hr.row hlt
      rw [at_drop (by rw [stampss_len]; exact r.len) hlt] at hxs
      have hst := stampss_get (m := m) hxs
      have hsm := sumLen_le xss (j + 1)
      rw [sumLen_take hxs] at hsm
      have hkm := sumLen_take hxs
      obtain ⟨g, rfl, hg1, hg2⟩ := hr.out.pos (by omega)
      obtain ⟨u', hu', hc, hf⟩ := hr.out.there hlt
      obtain rfl : u = u' := Option.some.inj (hu.symm.trans hu')
      generalize hK : sumLen (xss.take j) = K at *
      obtain ⟨ad3, n3, cap3, rfl, ⟨rfl, rfl, _, _⟩ | ⟨hn3, hr3⟩⟩ := ho
      · have hkm0 : sumLen (xss.take (j + 1)) = K := by rw [hkm]; rfl
        have HM := Lib.hid (markI0 wr ad3 cap3 (m + K))
        have HG := Lib.hid hr
        clear hr hkm hK
        go_wp2_with fail
        go_at_call 42
        refine HM.out.mono ?_
        rintro e w2 ⟨rfl, rfl⟩
        go_wp2
        go_roundw
        case rel => exact ⟨j + 1, by omega, by go_num, by rw [hkm0], by
          have := over2 (xs := xss) r.len (by rw [stampss_len]; exact r.len) hlt hst
          rw [← this, set_same (x := stamps .i64 (m + K) ([] : List Int).length) (by rw [at_drop (by rw [stampss_len]; exact r.len) hlt, hxs]; rfl)]
          exact HG.out, hb⟩
        case measure => simp [intOf]; omega
      · obtain ⟨b, rfl, b1, b2, hr4⟩ := hr3.tight hn3
        have hln : n3 = xs.length := hr3.len.symm
        have HM := Lib.hid (markI wr hr4 (by omega) (m + K) (by omega) (by omega))
        have HG := Lib.hid hr
        have hkm1 : (K : Int) + n3 = sumLen (xss.take (j + 1)) := by rw [hkm, hln]; simp
        have HLN := Lib.hid hln
        clear hr hK hr3 hr4 hln
        go_wp2_with fail
        go_at_call 42
        refine HM.out.mono ?_
        rintro e w2 ⟨rfl, r5, m5⟩
        have HR5 := Lib.hid (HG.out.redo hu hn3 r5 m5 b1 b2)
        clear r5 m5
        go_wp2
        go_roundw
        case rel =>
          refine ⟨j + 1, by omega, by go_num, by rw [← hkm1]; congr 1; omega, ?_, hb.trans HR5.out.2⟩
          have h6 := HR5.out.1
          rw [HLN.out] at h6
          rw [over2 (xs := xss) r.len (by rw [stampss_len]; exact r.len) hlt hst] at h6
          exact h6
        case measure => simp [intOf]; omega
    · obtain rfl : j = n := by omega
      rw [List.take_of_length_le (Nat.le_of_eq (by rw [stampss_len]; exact r.len)), List.drop_eq_nil_of_le (Nat.le_of_eq r.len), List.append_nil] at hr
      have e1 : xss.take j = xss := List.take_of_length_le (Nat.le_of_eq r.len)
      have HG := Lib.hid hr
      clear hr
      rw [e1]
      go_wp2
      go_ret
      exact ⟨rfl, HG.out, hb⟩
theorem heldSS (w : World) {l h : Nat} {ad : Option Addr} {n cap : Nat} {xss : List (List Int)} (m : Int) (s : Sls w l h ad n cap (stampss m xss)) (hn : n ≤ 1099511627776) (hS : sumLen xss ≤ 17592186044416) (hm0 : 0 ≤ m) (hm1 : m ≤ 100000000000000000) :
    Calls Try.prog 36 #[.slice ad n cap, .int .i64 m] w fun e w' => e = .returned (.int .i64 (m + sumLen xss)) ∧ Below w.heap.size w w' := by
  have hl : xss.length = n := by rw [← s.len, stampss_len]
  go_enter Try.func36, Try.ntmps36
  go_wp2
  go_loopw [5, 1] (fun i kk wr => ∃ j : Nat, j ≤ n ∧ i = .int .i64 j ∧ kk = .int .i64 (m + sumLen (xss.take j)) ∧ Below w.heap.size w wr) (fun i _ _ => n - (intOf i).toNat)
  case atStart => exact ⟨0, Nat.zero_le _, rfl, by simp [sumLen], Below.refl _ _⟩
  case round =>
    obtain ⟨j, hj, rfl, rfl, hb⟩ := hrel
    by_cases hlt : j < n
    · obtain ⟨a, ad3, n3, cap3, x, rfl, hx, hc⟩ := (s.below hb (.inr (Nat.le_refl _))).at_ hlt
      obtain ⟨xs, hxs⟩ : ∃ xs, xss[j]? = some xs := ⟨_, List.getElem?_eq_getElem (by omega)⟩
      have hst := stampss_get (m := m) hxs
      obtain rfl := Option.some.inj (hx.get.symm.trans hst)
      have hsm := sumLen_le xss (j + 1)
      rw [sumLen_take hxs] at hsm
      have hkm := sumLen_take hxs
      have hln : n3 = xs.length := by rw [← hx.sl.len, stamps_len]
      have hsl := hx.sl
      generalize hK : sumLen (xss.take j) = K at *
      rw [← hln] at hsl
      have HM := Lib.hid (heldI wr (m + K) hsl (by omega) (by omega) (by omega))
      have hkm1 : (K : Int) + n3 = sumLen (xss.take (j + 1)) := by rw [hkm, hln]; simp
      have zb := hb.size
      clear hK hkm hsl hst hx hln
      go_wp2_with fail
      go_at_call 43
      refine HM.out.mono ?_
      rintro e w2 ⟨rfl, b5⟩
      replace hb := hb.trans (b5.mono zb)
      go_wp2
      go_roundw
      case rel => exact ⟨j + 1, by omega, by go_num, by rw [← hkm1]; congr 1; omega, hb⟩
      case measure => simp [intOf]; omega
    · obtain rfl : j = n := by omega
      have e1 : xss.take j = xss := List.take_of_length_le (Nat.le_of_eq hl)
      rw [e1]
      go_wp2
      go_ret
      exact ⟨rfl, hb⟩
/-- What is left of the measure: below 0 where the lists are too large together. -/
def Left (ls : List Nat) (most : Int) (w : World) (e : Ending) (w' : World) : Prop := ∃ r : Int, e = .returned (.int .i64 r) ∧ -1 ≤ r ∧ r ≤ most ∧ (0 ≤ r → ∀ n ∈ ls, (n : Int) ≤ most) ∧ w = w'
theorem szI (w : World) (ad : Option Addr) (n cap : Nat) (hn : n ≤ 9223372036854775807) (m : Int) (hm0 : 0 ≤ m) (hm1 : m ≤ 1048576) :
    Calls Try.prog 67 #[.slice ad n cap, .int .i64 m] w (Left [n] m w) := by
  by_cases h : (n : Int) ≤ m
  · go_enter Try.func67, Try.ntmps67
    go_wp2
    go_ret
    exact ⟨_, rfl, by omega, by omega, fun _ k hk => by obtain rfl := List.mem_singleton.1 hk; exact h, rfl⟩
  · go_enter Try.func67, Try.ntmps67
    go_wp2
    go_ret
    exact ⟨_, rfl, by omega, by omega, fun h => by omega, rfl⟩
theorem szSS (w : World) {l h : Nat} {ad : Option Addr} {n cap : Nat} {xss : List (List Int)} (s : Sls w l h ad n cap xss) (m : Int) (hm0 : 0 ≤ m) (hm1 : m ≤ 1048576) :
    Calls Try.prog 30 #[.slice ad n cap, .int .i64 m] w (Left (n :: xss.map List.length) m w) := by
  have hcap := s.le
  have hbig := s.big
  unfold maxLen at hbig
  by_cases h : (n : Int) ≤ m
  · go_enter Try.func30, Try.ntmps30
    go_wp2
    go_loopw [5, 1] (fun i kk wr => ∃ (j : Nat) (c : Int), j ≤ n ∧ i = .int .i64 j ∧ kk = .int .i64 c ∧ 0 ≤ c ∧ c ≤ m - n ∧ (∀ k ∈ (xss.map List.length).take j, (k : Int) ≤ m) ∧ w = wr) (fun i _ _ => n - (intOf i).toNat)
    case atStart => exact ⟨0, _, Nat.zero_le _, rfl, rfl, by omega, by omega, by simp, rfl⟩
    case round =>
      obtain ⟨j, c, hj, rfl, rfl, hc0, hc1, hall, rfl⟩ := hrel
      by_cases hlt : j < n
      · obtain ⟨a, ad3, n3, cap3, x, rfl, hx, hc⟩ := s.at_ hlt
        have hl3 := hx.sl.len
        have hb3 := hx.sl.big
        have hle3 := hx.sl.le
        unfold maxLen at hb3
        have HM := Lib.hid (szI w ad3 n3 cap3 (by omega) c hc0 (by omega))
        have HA := Lib.hid hall
        have HX := Lib.hid hx.get
        clear hall hx
        go_wp2_with fail
        go_at_call 67
        refine HM.out.mono ?_
        rintro e w2 ⟨r, rfl, hr0, hr1, hr2, rfl⟩
        by_cases hr : 0 ≤ r
        · have h3 := hr2 hr n3 (by simp)
          clear hr2
          go_wp2
          go_roundw
          case rel =>
            refine ⟨j + 1, r, by omega, by go_num, rfl, hr, by omega, fun k hk => ?_, by first | rfl | trivial⟩
            rw [List.take_add_one, List.getElem?_map, HX.out, List.mem_append] at hk
            rcases hk with hk | hk
            · exact HA.out k hk
            · obtain rfl : k = x.length := by simpa using hk
              omega
          case measure => simp [intOf]; omega
        · clear hr2
          go_wp2
          go_ret
          exact ⟨_, rfl, by omega, by omega, fun h => by omega, rfl⟩
      · obtain rfl : j = n := by omega
        have HA := Lib.hid hall
        clear hall
        go_wp2
        go_ret
        refine ⟨_, rfl, by omega, by omega, fun _ k hk => ?_, rfl⟩
        rcases List.mem_cons.1 hk with rfl | hk
        · exact h
        · exact HA.out k (by rwa [List.take_of_length_le (by rw [List.length_map]; exact Nat.le_of_eq s.len)])
  · go_enter Try.func30, Try.ntmps30
    go_wp2
    go_ret
    exact ⟨_, rfl, by omega, by omega, fun h => by omega, rfl⟩

/-- A list of lists that the exact laws look at. -/
structure Small (xss : List (List Int)) : Prop where
  len : xss.length ≤ 1048576
  each : ∀ xs ∈ xss, xs.length ≤ 1048576
theorem Small.sum {xss : List (List Int)} (h : Small xss) : sumLen xss ≤ 1099511627776 := by
  have h1 := sumLen_most h.each
  have h2 := Nat.mul_le_mul_right 1048576 h.len
  omega
theorem Small.rows {xss : List (List Int)} (h : Small xss) : ∀ xs ∈ xss, xs.length ≤ 17592186044416 := fun xs hx => by have := h.each xs hx; omega
theorem szSS_small (w : World) {l h : Nat} {ad : Option Addr} {n cap : Nat} {xss : List (List Int)} (s : Sls w l h ad n cap xss) (m : Int) (hm0 : 0 ≤ m) (hm1 : m ≤ 1048576) :
    Calls Try.prog 30 #[.slice ad n cap, .int .i64 m] w fun e w' => ∃ r : Int, e = .returned (.int .i64 r) ∧ -1 ≤ r ∧ r ≤ 1048576 ∧ (0 ≤ r → Small xss) ∧ w = w' :=
  (szSS w s m hm0 hm1).mono fun _ _ ⟨r, a, b, c, d, e⟩ => ⟨r, a, b, by omega, fun hr => ⟨by have := d hr n (by simp); rw [s.len]; omega, fun xs hx => by have := d hr xs.length (by simp; exact .inr ⟨xs, hx, rfl⟩); omega⟩, e⟩
end Go.Proofs.Ythhnfbhpdcemfaa.Help
