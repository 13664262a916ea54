/-
  FormatInt and ParseInt, the program's and the model's: what each returns at every argument: walks over the program's text.
-/
import Derived.Test.YtlkonkgfkelojaaDoorFmt
import Derived.Test.YtlkonkgfkelojaaDoorShelf
import Derived.WalkKit
import Derived.ProofKit
import Derived.OpenShut
import Derived.Below
import Derived.BigCall
import Derived.BigGuard
import Derived.Lib.AppendIntMem
namespace Go.Proofs.YtlkonkgfkelojaaDoor.Conv
open Go.ChangeShapes Go.WideShapes Go.ChangeAt Go.RowKit
open Go.Lib (decDigits itoa nDigits)
open Go.Proofs.YtlkonkgfkelojaaDoor.Num

/-- The package variables that strconv reads, as start-up lays them. -/
structure VarsAt (w : World) : Prop where
  tab : Lib.TabIs Tryd.prog w "internal/strconv.uint64pow10" .u64 Lib.pow10Tab
  syn : ∃ tp p, w.var? Tryd.prog "strconv.ErrSyntax" = some #[.iface tp p]
  rng : ∃ tp p, w.var? Tryd.prog "strconv.ErrRange" = some #[.iface tp p]

theorem var_stays {P : Program} {w w' : World} (hb : Below w.heap.size w w') {n : String} {c : Array Value} (h : w.var? P n = some c) : w'.var? P n = some c := by
  unfold World.var? at *
  cases hg : P.globalNamed n with
  | none => simp [hg] at h
  | some g =>
    simp only [hg, Option.bind_some] at h ⊢
    have hlt : g < w.heap.size := by
      rcases Nat.lt_or_ge g w.heap.size with h' | h'
      · exact h'
      · rw [Array.getElem?_eq_none h'] at h; simp at h
    rw [hb.block g hlt]
    exact h

theorem VarsAt.tab_below {w w' : World} (h : Lib.TabIs Tryd.prog w "internal/strconv.uint64pow10" .u64 Lib.pow10Tab) (hb : Below w.heap.size w w') : Lib.TabIs Tryd.prog w' "internal/strconv.uint64pow10" .u64 Lib.pow10Tab := by
  unfold Lib.TabIs at *; exact var_stays hb h
theorem VarsAt.below {w w' : World} (h : VarsAt w) (hb : Below w.heap.size w w') : VarsAt w' := by
  refine ⟨?_, ?_, ?_⟩
  · have := h.tab; unfold Lib.TabIs at *; exact var_stays hb this
  · obtain ⟨tp, p, e⟩ := h.syn; exact ⟨tp, p, var_stays hb e⟩
  · obtain ⟨tp, p, e⟩ := h.rng; exact ⟨tp, p, var_stays hb e⟩

/-- impl.FormatInt. -/
theorem impl_format (n : Int) (w : World) (hw : Lib.TabIs Tryd.prog w "internal/strconv.uint64pow10" .u64 Lib.pow10Tab) (h1 : -9223372036854775808 ≤ n) (h2 : n ≤ 9223372036854775807) :
    Calls Tryd.prog 10 #[.int .i64 n] w fun e w' => e = .returned (.string ⟨(itoa n).toArray⟩) ∧ Below w.heap.size w w' := by
  have hc := Tryd.strconv_Itoa n h1 h2
  go_enter Tryd.func10, Tryd.ntmps10
  go_wp2_with (go_at_call 23; refine (hc _ hw).mono ?_; rintro e w' ⟨rfl, k, os, rfl⟩)
  go_ret
  exact ⟨rfl, Lib.below_grow _ _ (Nat.le_refl _) _ _⟩

/-- What ParseInt answers: the number .. -/
def pval (s : ByteArray) : Int := ((canon s.data.toList).getD 0 : Nat)
/-- .. and whether there is one. -/
def pok (s : ByteArray) : Bool := (canon s.data.toList).isSome

theorem p_none {s : ByteArray} (h : canon s.data.toList = none) : pval s = 0 ∧ pok s = false := by
  unfold pval pok; rw [h]; exact ⟨rfl, rfl⟩
theorem p_some {s : ByteArray} {n : Nat} (h : canon s.data.toList = some n) : pval s = (n : Int) ∧ pok s = true := by
  unfold pval pok; rw [h]; exact ⟨rfl, rfl⟩

theorem inr_yes (n lo hi : Int) (w : World) (h1 : lo ≤ n) (h2 : n ≤ hi) :
    Calls Tryd.prog 21 #[.int .i64 n, .int .i64 lo, .int .i64 hi] w fun e w' => e = .returned (.bool true) ∧ w = w' := by
  go_enter Tryd.func21, Tryd.ntmps21
  go_wp2
  go_ret
  exact ⟨rfl, rfl⟩
theorem inr_no (n lo hi : Int) (w : World) (h : n < lo ∨ hi < n) :
    Calls Tryd.prog 21 #[.int .i64 n, .int .i64 lo, .int .i64 hi] w fun e w' => e = .returned (.bool false) ∧ w = w' := by
  by_cases h1 : lo ≤ n <;> by_cases h2 : n ≤ hi
  · omega
  all_goals
    go_enter Tryd.func21, Tryd.ntmps21
    go_wp2
    go_ret
    exact ⟨rfl, rfl⟩

/-- strconv.Atoi where it ends in an error: some number, an error that is not nil. -/
def Fails (w : World) (e : Ending) (w' : World) : Prop := ∃ (n : Int) (tp : TypeId) (p : Value), e = .returned (.tuple #[.int .i64 n, .iface tp p]) ∧ Below w.heap.size w w'

theorem atoi_ok (s : ByteArray) (w : World) (hs : s.size ≤ 281474976710656) (v : Int) (h : Lib.atoiAll s.data.toList = .ok v) :
    Calls Tryd.prog 20 #[.string s] w fun e w' => e = .returned (.tuple #[.int .i64 v, .nilIface]) ∧ Below w.heap.size w w' :=
  (Tryd.strconv_Atoi_ok s (by omega) v h w).mono fun _ _ ⟨he, hw⟩ => ⟨he, by
    rcases hw with rfl | ⟨t, rfl⟩
    · exact Below.refl _ _
    · exact Lib.bytesWorld_below _ _ _⟩

theorem atoi_fails (s : ByteArray) (w : World) (hs : s.size ≤ 281474976710656) (hv : VarsAt w) (h : Lib.atoiAll s.data.toList = .«syntax» ∨ Lib.atoiAll s.data.toList = .range) :
    Calls Tryd.prog 20 #[.string s] w (Fails w) := by
  rcases h with h | h
  · obtain ⟨tp, p, hx⟩ := hv.syn
    exact (Tryd.strconv_Atoi_syntax_var s hs h tp p w hx).mono fun _ _ ⟨N, he, _, _, hb⟩ => ⟨_, _, _, he, hb⟩
  · obtain ⟨tp, p, hx⟩ := hv.rng
    exact (Tryd.strconv_Atoi_range_var s hs h tp p w hx).mono fun _ _ ⟨N, he, _, _, hb⟩ => ⟨_, _, _, he, hb⟩

/-- impl.ParseInt. -/
theorem impl_parse (s : ByteArray) (w : World) (hs : s.size ≤ 281474976710656) (hv : VarsAt w) :
    Calls Tryd.prog 8 #[.string s] w fun e w' => e = .returned (.tuple #[.int .i64 (pval s), .bool (pok s)]) ∧ Below w.heap.size w w' := by
  cases ha : Lib.atoiAll s.data.toList with
  | ok v =>
    obtain ⟨b1, b2⟩ := Lib.atoiAll_bounds ha
    have hc := atoi_ok s w hs v ha
    have hf := fun w' (hw : Below w.heap.size w w') => impl_format v w' (hv.below hw).tab b1 b2
    have HA := Lib.hid ha
    clear ha
    by_cases h0 : 0 ≤ v ∧ v ≤ 1000000000000
    · obtain ⟨h0, h1⟩ := h0
      by_cases he : itoa v = s.data.toList
      · have HP := Lib.hid (p_some (atoi_canon HA.out h0 h1 he))
        have HS := Lib.hid (show (⟨(itoa v).toArray⟩ : ByteArray) = s by rw [he])
        clear he
        go_enter Tryd.func8, Tryd.ntmps8
        go_wp2_with (first
          | (go_at_call 20; refine hc.mono ?_; rintro e w1 ⟨rfl, hb1⟩)
          | (go_at_call 21; refine (inr_yes _ _ _ _ h0 h1).mono ?_; rintro e w' ⟨rfl, rfl⟩)
          | (go_at_call 10; refine (hf _ hb1).mono ?_; rintro e w2 ⟨rfl, hb2⟩; rw [HS.out]))
        go_ret2
        obtain ⟨e1, e2⟩ := HP.out
        exact ⟨by rw [e1, e2, Int.toNat_of_nonneg h0]; rfl, hb1.trans (hb2.mono hb1.size)⟩
      · have HP := Lib.hid (p_none (s := s) (atoi_other (fun n hn hk => by rw [HA.out] at hk; injection hk with hk; rw [← hk]; exact he)))
        have HS : (itoa v == s.toList) = false := by
          rw [ByteArray.toList_eq]; simpa using he
        clear he
        go_enter Tryd.func8, Tryd.ntmps8
        go_wp2_with (first
          | (go_at_call 20; refine hc.mono ?_; rintro e w1 ⟨rfl, hb1⟩)
          | (go_at_call 21; refine (inr_yes _ _ _ _ h0 h1).mono ?_; rintro e w' ⟨rfl, rfl⟩)
          | (go_at_call 10; refine (hf _ hb1).mono ?_; rintro e w2 ⟨rfl, hb2⟩))
        go_ret2
        obtain ⟨e1, e2⟩ := HP.out
        exact ⟨by rw [e1, e2]; rfl, hb1.trans (hb2.mono hb1.size)⟩
    · have HP := Lib.hid (p_none (s := s) (atoi_other (fun n hn hk => by rw [HA.out] at hk; injection hk with hk; omega)))
      have h1 : v < 0 ∨ 1000000000000 < v := by omega
      have HN := Lib.hid h1
      clear h0 h1
      go_enter Tryd.func8, Tryd.ntmps8
      go_wp2_with (first
        | (go_at_call 20; refine hc.mono ?_; rintro e w1 ⟨rfl, hb1⟩)
        | (go_at_call 21; refine (inr_no _ _ _ _ HN.out).mono ?_; rintro e w' ⟨rfl, rfl⟩))
      go_ret2
      obtain ⟨e1, e2⟩ := HP.out
      exact ⟨by rw [e1, e2]; rfl, hb1⟩
  | «syntax» =>
    have HP := Lib.hid (p_none (s := s) (atoi_other (fun n hn hk => by rw [ha] at hk; cases hk)))
    have hc := atoi_fails s w hs hv (Or.inl ha)
    clear ha
    go_enter Tryd.func8, Tryd.ntmps8
    go_wp2_with (go_at_call 20; refine hc.mono ?_; rintro e w1 ⟨v, tp, p, rfl, hb1⟩)
    go_ret2
    obtain ⟨e1, e2⟩ := HP.out
    exact ⟨by rw [e1, e2]; rfl, hb1⟩
  | range =>
    have HP := Lib.hid (p_none (s := s) (atoi_other (fun n hn hk => by rw [ha] at hk; cases hk)))
    have hc := atoi_fails s w hs hv (Or.inr ha)
    clear ha
    go_enter Tryd.func8, Tryd.ntmps8
    go_wp2_with (go_at_call 20; refine hc.mono ?_; rintro e w1 ⟨v, tp, p, rfl, hb1⟩)
    go_ret2
    obtain ⟨e1, e2⟩ := HP.out
    exact ⟨by rw [e1, e2]; rfl, hb1⟩

/-- l1In, the model's range test. -/
theorem l1in_yes (n lo hi : Int) (w : World) (h1 : lo ≤ n) (h2 : n ≤ hi) :
    Calls Tryd.prog 24 #[.int .i64 n, .int .i64 lo, .int .i64 hi] w fun e w' => e = .returned (.bool true) ∧ w = w' := by
  go_enter Tryd.func24, Tryd.ntmps24
  go_wp2
  go_ret
  exact ⟨rfl, rfl⟩
theorem l1in_no (n lo hi : Int) (w : World) (h : n < lo ∨ hi < n) :
    Calls Tryd.prog 24 #[.int .i64 n, .int .i64 lo, .int .i64 hi] w fun e w' => e = .returned (.bool false) ∧ w = w' := by
  by_cases h1 : lo ≤ n <;> by_cases h2 : n ≤ hi
  · omega
  all_goals
    go_enter Tryd.func24, Tryd.ntmps24
    go_wp2
    go_ret
    exact ⟨rfl, rfl⟩

theorem take_snoc (s : ByteArray) (k : Nat) (h : k < s.size) : s.data.toList.take (k + 1) = s.data.toList.take k ++ [s[k]] := by
  rw [List.take_succ_eq_append_getElem (by simpa using h)]; rfl
theorem mem_at (s : ByteArray) (k : Nat) (h : k < s.size) : s[k] ∈ s.data.toList := by
  have : s[k] ∈ s.data.toList.take (k + 1) := by rw [take_snoc s k h]; simp
  exact List.mem_of_mem_take this
theorem val_bound {l : List UInt8} (hd : ∀ c ∈ l, isDig c) (hl : l.length ≤ 13) : val l 0 < 10000000000000 := by
  have h := val_lt l hd 0
  have h2 : 10 ^ l.length ≤ 10 ^ 13 := Nat.pow_le_pow_right (by omega) hl
  have h3 : (10 : Nat) ^ 13 = 10000000000000 := by decide
  omega
theorem val_snoc (l : List UInt8) (c : UInt8) (h : isDig c) : ((val (l ++ [c]) 0 : Nat) : Int) = 10 * (val l 0 : Nat) + ((c.toNat : Int) - 48) := by
  unfold isDig at h
  rw [val_append]; simp only [val]; omega

theorem digs_snoc {a b : List UInt8} {c : UInt8} (h : ∀ x ∈ a, isDig x) (hc : isDig c) (e : b = a ++ [c]) : ∀ x ∈ b, isDig x := by
  intro x hx
  rw [e] at hx
  rcases List.mem_append.1 hx with h1 | h1
  · exact h x h1
  · have : x = c := by simpa using h1
    rw [this]; exact hc
theorem canon_here {l : List UInt8} {x : Nat} (_ : x = val l 0) (h0 : x ≤ 1000000000000) (he : itoa (x : Int) = l) : canon l = some x := by
  rw [Lib.itoa_nonneg] at he
  rw [← he]; exact canon_digits h0
theorem canon_nohere {l : List UInt8} {x : Nat} (e : x = val l 0) (he : ¬ itoa (x : Int) = l) : canon l = none := by
  cases h : canon l with
  | none => rfl
  | some n =>
    obtain ⟨h1, h2⟩ := canon_val h
    rw [← e] at h1; subst h1; exact absurd h2 he
theorem canon_big {l : List UInt8} {x : Nat} (e : x = val l 0) (h0 : ¬ x ≤ 1000000000000) : canon l = none := by
  cases h : canon l with
  | none => rfl
  | some n =>
    have h1 := (canon_val h).1
    have h2 := (canon_some h).1
    omega
abbrev spec_format := @Fmt.format

set_option maxHeartbeats 1000000 in
/-- spec.ParseInt. -/
theorem spec_parse (s : ByteArray) (w : World) (hs : s.size ≤ 281474976710656) :
    Calls Tryd.prog 15 #[.string s] w fun e w' => e = .returned (.tuple #[.int .i64 (pval s), .bool (pok s)]) ∧ Below w.heap.size w w' := by
  by_cases hl : 1 ≤ s.size ∧ s.size ≤ 13
  · obtain ⟨hl1, hl2⟩ := hl
    go_enter Tryd.func15, Tryd.ntmps15
    go_wp2_with (go_at_call 24; refine (l1in_yes _ _ _ _ (by omega) (by omega)).mono ?_; rintro e w' ⟨rfl, rfl⟩)
    go_loop [4, 5] (fun n i => ∃ k : Nat, k ≤ s.size ∧ i = .int .i64 k ∧ (∀ c ∈ s.data.toList.take k, isDig c) ∧ n = .int .i64 ((val (s.data.toList.take k) 0 : Nat) : Int)) (fun _ i => s.size - (intOf i).toNat)
    case atStart => exact ⟨0, Nat.zero_le _, rfl, by simp, rfl⟩
    case round =>
      obtain ⟨k, hk, rfl, hd, rfl⟩ := hrel
      have hlen : (s.data.toList.take k).length ≤ k := List.length_take_le _ _
      have hvb := val_bound hd (by omega)
      by_cases hlt : k < s.size
      · have h256 : s[k].toNat < 256 := s[k].toNat_lt
        by_cases hc : isDig s[k]
        · have HS := Lib.hid (val_snoc (s.data.toList.take k) s[k] hc)
          have HT := Lib.hid (take_snoc s k hlt)
          have HD := Lib.hid hd
          have HC := Lib.hid hc
          unfold isDig at hc
          obtain ⟨hc1, hc2⟩ := hc
          clear hd
          go_wp2_with (go_at_call 24; refine (l1in_yes _ _ _ _ (by omega) (by omega)).mono ?_; rintro e w' ⟨rfl, rfl⟩)
          go_round
          case rel => exact ⟨k + 1, by omega, by go_num, digs_snoc HD.out HC.out HT.out, by rw [HT.out, HS.out]⟩
          case measure => simp [intOf]; omega
        · have HP := Lib.hid (p_none (s := s) (by
            cases h : canon s.data.toList with
            | none => rfl
            | some n => exact absurd (canon_dig h _ (mem_at s k hlt)) hc))
          have hn : s[k].toNat < 48 ∨ 57 < s[k].toNat := by unfold isDig at hc; omega
          clear hc hd
          go_wp2_with (go_at_call 24; refine (l1in_no _ _ _ _ (by omega)).mono ?_; rintro e w' ⟨rfl, rfl⟩)
          go_ret2
          obtain ⟨e1, e2⟩ := HP.out
          exact ⟨by rw [e1, e2]; rfl, Below.refl _ _⟩
      · have htk : s.data.toList.take k = s.data.toList := List.take_of_length_le (by simp; omega)
        have HV := Lib.hid (show val (s.data.toList.take k) 0 = val s.data.toList 0 by rw [htk])
        clear htk hd hlen
        generalize val (s.data.toList.take k) 0 = x at HV hvb ⊢
        have hf := spec_format (x : Int)
        by_cases h0 : x ≤ 1000000000000
        · by_cases he : itoa (x : Int) = s.data.toList
          · have HP := Lib.hid (p_some (canon_here HV.out h0 he))
            have HS := Lib.hid (show (⟨(itoa (x : Int)).toArray⟩ : ByteArray) = s by rw [he])
            clear he
            go_wp2_with (go_at_call 14; refine (hf _ (by omega) (by omega)).mono ?_; rintro e w2 ⟨rfl, hb2⟩; rw [HS.out])
            go_ret2
            obtain ⟨e1, e2⟩ := HP.out
            exact ⟨by rw [e1, e2]; rfl, hb2⟩
          · have HP := Lib.hid (p_none (canon_nohere HV.out he))
            have HS : (itoa (x : Int) == s.toList) = false := by
              rw [ByteArray.toList_eq]; simpa using he
            clear he
            go_wp2_with (go_at_call 14; refine (hf _ (by omega) (by omega)).mono ?_; rintro e w2 ⟨rfl, hb2⟩)
            go_ret2
            obtain ⟨e1, e2⟩ := HP.out
            exact ⟨by rw [e1, e2]; rfl, hb2⟩
        · have HP := Lib.hid (p_none (canon_big HV.out h0))
          go_wp2_with (fail)
          go_ret2
          obtain ⟨e1, e2⟩ := HP.out
          exact ⟨by rw [e1, e2]; rfl, Below.refl _ _⟩
  · have hc : canon s.data.toList = none := by
      cases hc : canon s.data.toList with
      | none => rfl
      | some n =>
        have := canon_len hc
        have e2 : s.data.toList.length = s.size := Array.length_toList
        omega
    have HP := Lib.hid (p_none hc)
    have HN := Lib.hid (show (s.size : Int) < 1 ∨ (13 : Int) < s.size by omega)
    clear hc hl
    go_enter Tryd.func15, Tryd.ntmps15
    go_wp2_with (go_at_call 24; refine (l1in_no _ _ _ _ HN.out).mono ?_; rintro e w' ⟨rfl, rfl⟩)
    go_ret2
    obtain ⟨e1, e2⟩ := HP.out
    exact ⟨by rw [e1, e2]; rfl, Below.refl _ _⟩
end Go.Proofs.YtlkonkgfkelojaaDoor.Conv
