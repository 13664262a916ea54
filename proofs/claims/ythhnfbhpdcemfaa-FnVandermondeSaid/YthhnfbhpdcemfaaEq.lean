/-
  Equality of lists, of the program, of the library and of the model: what they answer.
-/
import Derived.Test.YthhnfbhpdcemfaaHelp
import Derived.Laws.IdiomStrings
import Derived.Laws.BytesArg
namespace Go.Proofs.Ythhnfbhpdcemfaa.Eq
open Go.ChangeShapes Go.WideShapes Go.ChangeAt Go.RowKit
open Go.Proofs.Ythhnfbhpdcemfaa.Seq Go.Proofs.Ythhnfbhpdcemfaa.Help

def same (xs ys : List Int) : Bool := decide (xs = ys)
theorem same_yes {xs ys : List Int} (h : xs = ys) : same xs ys = true := decide_eq_true h
theorem same_no {xs ys : List Int} (h : ¬ xs = ys) : same xs ys = false := decide_eq_false h
theorem differ2 {xs ys : List Int} {j : Nat} {x y : Int} (hx : xs[j]? = some x) (hy : ys[j]? = some y) (h : ¬ x = y) : ¬ xs = ys := by
  intro e; subst e; rw [hx] at hy; exact h (Option.some.inj hy)
theorem step {xs ys : List Int} {j : Nat} {x : Int} (h : xs.take j = ys.take j) (hx : xs[j]? = some x) (hy : ys[j]? = some x) : xs.take (j + 1) = ys.take (j + 1) := by
  obtain ⟨h1, rfl⟩ := List.getElem?_eq_some_iff.1 hx
  obtain ⟨h2, e2⟩ := List.getElem?_eq_some_iff.1 hy
  rw [List.take_succ_eq_append_getElem h1, List.take_succ_eq_append_getElem h2, h, e2]

def Said (b : Bool) (w : World) (e : Ending) (w' : World) : Prop := e = .returned (.bool b) ∧ Below w.heap.size w w'
theorem said_of {b c : Bool} {w w' : World} (h : b = c) (hb : Below w.heap.size w w') : Said b w (.returned (.bool c)) w' := by subst h; exact ⟨rfl, hb⟩

theorem spec_eqI (w : World) {l h l2 h2 : Nat} {ad ad2 : Option Addr} {n cap n2 cap2 : Nat} {xs ys : List Int} (s : Sl w l h .i64 ad n cap xs) (s2 : Sl w l2 h2 .i64 ad2 n2 cap2 ys) (hn : n ≤ 17592186044416) :
    Calls Try.prog 71 #[.slice ad n cap, .slice ad2 n2 cap2] w (Said (same xs ys) w) := by
  have hl := s.len
  have hl2 := s2.len
  by_cases hnn : n = n2
  · subst hnn
    have HL := Lib.hid hl
    have HL2 := Lib.hid hl2
    clear hl hl2
    go_enter Try.func71, Try.ntmps71
    go_wp2
    go_loopw [5] (fun i wr => ∃ j : Nat, j ≤ n ∧ i = .int .i64 j ∧ Hid (xs.take j = ys.take j) ∧ Below w.heap.size w wr) (fun i _ => n - (intOf i).toNat)
    case atStart => exact ⟨0, Nat.zero_le _, rfl, by simp [Hid], Below.refl _ _⟩
    case round =>
      obtain ⟨j, hj, rfl, HT, hb⟩ := hrel
      by_cases hlt : j < n
      · obtain ⟨a, x, rfl, hx, hc⟩ := (s.below hb (.inr (Nat.le_refl _))).at_ hlt
        obtain ⟨a2, y, rfl, hy, hc2⟩ := (s2.below hb (.inr (Nat.le_refl _))).at_ hlt
        by_cases hxy : x = y
        · subst hxy
          go_wp2
          go_quiet (fail)
          go_wp2
          go_roundw
          case rel => exact ⟨j + 1, by omega, by go_num, step HT.out hx.get hy.get, below_drewN hb _⟩
          case measure => simp [intOf]; omega
        · have HN := Lib.hid (same_no (differ2 hx.get hy.get hxy))
          have hxb : (x == y) = false := by simp [hxy]
          go_wp2
          go_quiet (fail)
          go_wp2
          go_ret
          exact said_of HN.out (below_drewN hb _)
      · obtain rfl : j = n := by omega
        have ht := HT.out
        rw [List.take_of_length_le (Nat.le_of_eq HL.out), List.take_of_length_le (Nat.le_of_eq HL2.out)] at ht
        have HN := Lib.hid (same_yes ht)
        clear ht
        go_wp2
        go_ret
        exact said_of HN.out hb
  · have HN := Lib.hid (same_no (xs := xs) (ys := ys) (fun e => hnn (by rw [← hl, ← hl2, e])))
    have hnb : (n == n2) = false := by simp [hnn]
    clear hl hl2
    go_enter Try.func71, Try.ntmps71
    go_wp2
    go_ret
    exact said_of HN.out (Below.refl _ _)
theorem lib_eqI (w : World) {l h l2 h2 : Nat} {ad ad2 : Option Addr} {n cap n2 cap2 : Nat} {xs ys : List Int} (s : Sl w l h .i64 ad n cap xs) (s2 : Sl w l2 h2 .i64 ad2 n2 cap2 ys) (hn : n ≤ 17592186044416) :
    Calls Try.prog 98 #[.slice ad n cap, .slice ad2 n2 cap2] w (Said (same xs ys) w) := by
  have hl := s.len
  have hl2 := s2.len
  by_cases hnn : n = n2
  · subst hnn
    have HL := Lib.hid hl
    have HL2 := Lib.hid hl2
    clear hl hl2
    go_enter Try.func98, Try.ntmps98
    go_wp2
    go_loopw [13] (fun i wr => ∃ j : Nat, j ≤ n ∧ i = .int .i64 j ∧ Hid (xs.take j = ys.take j) ∧ Below w.heap.size w wr) (fun i _ => n - (intOf i).toNat)
    case atStart => exact ⟨0, Nat.zero_le _, rfl, by simp [Hid], Below.refl _ _⟩
    case round =>
      obtain ⟨j, hj, rfl, HT, hb⟩ := hrel
      by_cases hlt : j < n
      · obtain ⟨a, x, rfl, hx, hc⟩ := (s.below hb (.inr (Nat.le_refl _))).at_ hlt
        obtain ⟨a2, y, rfl, hy, hc2⟩ := (s2.below hb (.inr (Nat.le_refl _))).at_ hlt
        by_cases hxy : x = y
        · subst hxy
          go_wp2
          go_quiet (fail)
          go_wp2
          go_roundw
          case rel => exact ⟨j + 1, by omega, by go_num, step HT.out hx.get hy.get, below_drewN hb _⟩
          case measure => simp [intOf]; omega
        · have HN := Lib.hid (same_no (differ2 hx.get hy.get hxy))
          have hxb : (x == y) = false := by simp [hxy]
          go_wp2
          go_quiet (fail)
          go_wp2
          go_ret
          exact said_of HN.out (below_drewN hb _)
      · obtain rfl : j = n := by omega
        have ht := HT.out
        rw [List.take_of_length_le (Nat.le_of_eq HL.out), List.take_of_length_le (Nat.le_of_eq HL2.out)] at ht
        have HN := Lib.hid (same_yes ht)
        clear ht
        go_wp2
        go_ret
        exact said_of HN.out hb
  · have HN := Lib.hid (same_no (xs := xs) (ys := ys) (fun e => hnn (by rw [← hl, ← hl2, e])))
    have hnb : (n == n2) = false := by simp [hnn]
    clear hl hl2
    go_enter Try.func98, Try.ntmps98
    go_wp2
    go_ret
    exact said_of HN.out (Below.refl _ _)

theorem impl_eqI (w : World) {l h l2 h2 : Nat} {ad ad2 : Option Addr} {n cap n2 cap2 : Nat} {xs ys : List Int} (s : Sl w l h .i64 ad n cap xs) (s2 : Sl w l2 h2 .i64 ad2 n2 cap2 ys) (hn : n ≤ 17592186044416) :
    Calls Try.prog 87 #[.slice ad n cap, .slice ad2 n2 cap2] w (Said (same xs ys) w) := by
  have HC := Lib.hid (lib_eqI w s s2 hn)
  go_enter Try.func87, Try.ntmps87
  go_wp2_with (go_at_call 98; refine HC.out.mono ?_; rintro e w1 ⟨rfl, hb1⟩)
  go_ret
  exact ⟨rfl, hb1⟩

/-- The bytes of a list. -/
def bytesOf (xs : List Int) : List UInt8 := xs.map fun x => UInt8.ofNat x.toNat
theorem bytesOf_inj : ∀ {xs ys : List Int}, (∀ x ∈ xs, Fits .u8 x) → (∀ x ∈ ys, Fits .u8 x) → bytesOf xs = bytesOf ys → xs = ys
  | [], [], _, _, _ => rfl
  | [], _ :: _, _, _, h => by cases h
  | _ :: _, [], _, _, h => by cases h
  | x :: xs, y :: ys, h1, h2, h => by
    simp only [bytesOf, List.map_cons, List.cons.injEq] at h
    have a := fits_u8.1 (h1 x (by simp))
    have b := fits_u8.1 (h2 y (by simp))
    have e := congrArg UInt8.toNat h.1
    rw [UInt8.toNat_ofNat', UInt8.toNat_ofNat'] at e
    have e2 : x = y := by omega
    rw [e2, bytesOf_inj (xs := xs) (ys := ys) (fun x hx => h1 x (by simp [hx])) (fun x hx => h2 x (by simp [hx])) h.2]

def str (xs : List Int) : ByteArray := ⟨(bytesOf xs).toArray⟩
theorem str_inj {xs ys : List Int} (h1 : ∀ x ∈ xs, Fits .u8 x) (h2 : ∀ x ∈ ys, Fits .u8 x) (h : str xs = str ys) : xs = ys :=
  bytesOf_inj h1 h2 (by have := congrArg (fun b => b.data.toList) h; simpa [str] using this)

/-- 'string(b)'. -/
theorem cv {P : Program} {src dst e : TypeId} (hs : P.underlying src = some (.slice e)) (he : P.underlying e = some (.int .u8)) (hd : P.underlying dst = some .string) {w : World} {l h : Nat} {ad : Option Addr} {n cap : Nat} {xs : List Int} (s : Sl w l h .u8 ad n cap xs) :
    (convert src dst (.slice ad n cap)).run P w = .ok (.string (str xs)) w := by
  cases ad with
  | none =>
    have h0 := s.nil rfl
    have hn : n = 0 := by have := s.le; omega
    have hx : xs = [] := List.eq_nil_of_length_eq_zero (s.len.trans hn)
    subst hx
    exact run_convert_bytes_nil w src e hs he n cap dst hd
  | some a =>
    have hl : (bytesOf xs).length = n := by rw [bytesOf, List.length_map]; exact s.len
    have h := run_convert_bytes_back w src dst e a cap (bytesOf xs) hs he hd (fun j hj => by
      have hj' : j < xs.length := by rw [bytesOf, List.length_map] at hj; exact hj
      obtain ⟨a', e', _, _, hc⟩ := s.cells j xs[j] (List.getElem?_eq_getElem hj')
      obtain rfl := Option.some.inj e'
      rw [hc]
      have hf := fits_u8.1 (s.fits _ (List.getElem_mem hj'))
      simp only [bytesOf, List.getElem_map, UInt8.toNat_ofNat']
      congr 2
      omega)
    rw [hl] at h
    exact h

end Go.Proofs.Ythhnfbhpdcemfaa.Eq
