/-
  The program's chapter 10: the parts of a generation.
  slices.Chunk: the pieces of a slice, by a function that yields them.
  The program's symbols: one of a part of the bytes.
  The program's BytesToSymbols.
  slices.Concat of slices of integers, and slices.Grow of the nil slice: the library's own text walked.
  The program's SymbolsToBytes.
  The program's JoinGenerations.
  The program's SplitMessage.
  The program's chapter 10, collected.
-/
import Derived.Test.YtkppkbafoeblhaaGM
import Derived.Test.YtkppkbafoeblhaaGI
import Derived.RangeFuncBox
import Derived.RangeFuncNested
import Derived.RangeFuncLeaves
import Derived.Shelf.Abstract
import Derived.WalkKit
import Derived.OwnWalkIn
import Derived.TacticsInMore
import Derived.LoopNIn
import Derived.LoopIn
import Derived.BigRegionIn
import Derived.Test.YtkppkbafoeblhaaGC
import Derived.Deep.RegionHeld3
import Derived.Test.YtkppkbafoeblhaaGA
import Derived.Lib.AppendZeros
namespace Go.Proofs.Ytkppkbafoeblhaa.GenI
open Go.ChangeShapes Go.WideShapes Go.ChangeAt Go.RowKit
open Go.Proofs.Ytkppkbafoeblhaa.Seq Go.Proofs.Ytkppkbafoeblhaa.Help Go.Proofs.Ytkppkbafoeblhaa.Field Go.Proofs.Ytkppkbafoeblhaa.FieldW Go.Proofs.Ytkppkbafoeblhaa.Vec Go.Proofs.Ytkppkbafoeblhaa.VecW Go.Proofs.Ytkppkbafoeblhaa.Mat Go.Proofs.Ytkppkbafoeblhaa.MatW Go.Proofs.Ytkppkbafoeblhaa.Shape Go.Proofs.Ytkppkbafoeblhaa.Gen Go.Proofs.Ytkppkbafoeblhaa.GenW

theorem size : SizeOp := fun w l h v b s _ => by
  obtain ⟨W, rows⟩ := b
  obtain ⟨u, rfl, hw, ad, n, cap, rfl, s⟩ := s
  show Calls _ _ _ _ (Says (.int .i64 rows.length) w)
  rw [show rows.length = n from s.len]
  have hbig := s.big
  have hcap := s.le
  unfold maxLen at hbig
  have hB := Blk.new w (.int .i64 W) (.slice ad n cap) 34
  have hb := below_box w (.cells #[.int .i64 W, .slice ad n cap] 34)
  have c0 := hB.c0
  have c1 := hB.c1
  have HB := Lib.hid hb
  clear s hB hb
  go_enter Try.func21, Try.ntmps21
  go_wp2
  go_ret
  exact ⟨rfl, HB.out⟩
theorem width : WidthOp := fun w l h v b s _ => by
  obtain ⟨W, rows⟩ := b
  obtain ⟨u, rfl, hw, ad, n, cap, rfl, s⟩ := s
  show Calls _ _ _ _ (Says (.int .i64 (colsOf rows)) w)
  have hB := Blk.new w (.int .i64 W) (.slice ad n cap) 34
  have hb := below_box w (.cells #[.int .i64 W, .slice ad n cap] 34)
  have HK := Lib.hid (MatI.cols_is _ (s.below hb (.inr (Nat.le_refl _))))
  have c0 := hB.c0
  have c1 := hB.c1
  have HB := Lib.hid hb
  clear s hB hb
  go_enter Try.func20, Try.ntmps20
  go_wp2_with fail
  go_at_call 61
  refine HK.out.mono ?_
  rintro e w1 ⟨rfl, rfl⟩
  go_wp2
  go_ret
  exact ⟨rfl, HB.out⟩
theorem eqGen : EqGenOp := fun w l h l2 h2 v v2 b b2 s f s2 f2 => by
  obtain ⟨W, rows⟩ := b
  obtain ⟨W2, rows2⟩ := b2
  obtain ⟨u, rfl, hw, ad, n, cap, rfl, s⟩ := s
  obtain ⟨u2, rfl, hw2, ad2, n2, cap2, rfl, s2⟩ := s2
  have HF := Lib.hid (show sameG (W, rows) (W2, rows2) = ((W == W2) && MatW.sameM rows rows2) from rfl)
  have hb := (below_box w (.cells #[.int .i64 W, .slice ad n cap] 34)).alloc (by simp) (.cells #[.int .i64 W2, .slice ad2 n2 cap2] 34)
  have hn : n ≤ 1099511627776 := by have := Small.len f; have := s.len; dsimp only at *; omega
  have hn2 : n2 ≤ 1099511627776 := by have := Small.len f2; have := s2.len; dsimp only at *; omega
  have HK := Lib.hid (MatI.eqM ((w.alloc (.cells #[.int .i64 W, .slice ad n cap] 34)).alloc (.cells #[.int .i64 W2, .slice ad2 n2 cap2] 34)) (s.below hb (.inr (Nat.le_refl _))) hn (fun xs hx => by have := Small.each f xs hx; omega) (s2.below hb (.inr (Nat.le_refl _))) hn2 (fun xs hx => by have := Small.each f2 xs hx; omega))
  have hB := (Blk.new w (.int .i64 W) (.slice ad n cap) 34).alloc (.cells #[.int .i64 W2, .slice ad2 n2 cap2] 34)
  have hB2 := Blk.new (w.alloc (.cells #[.int .i64 W, .slice ad n cap] 34)) (.int .i64 W2) (.slice ad2 n2 cap2) 34
  rw [World.size_alloc] at hB2
  have c0 := hB.c0
  have c1 := hB.c1
  have d0 := hB2.c0
  have d1 := hB2.c1
  have HX := Lib.hid hb
  have hz : ((w.alloc (.cells #[.int .i64 W, .slice ad n cap] 34)).alloc (.cells #[.int .i64 W2, .slice ad2 n2 cap2] 34)).heap.size = w.heap.size + 2 := by simp
  have HZ := Lib.hid hz
  clear s s2 hB hB2 hb f f2 hz
  by_cases hW : W = W2
  · subst hW
    have HE := Lib.hid (show (W == W) = true by simp)
    generalize sameM rows rows2 = B2 at *
    go_enter Try.func52, Try.ntmps52
    go_wp2_with fail
    go_at_call 70
    refine HK.out.mono ?_
    rintro e w' ⟨rfl, b2⟩
    have HB2 := Lib.hid b2
    clear b2
    go_wp2
    go_ret
    exact ⟨by rw [HF.out, HE.out]; rfl, HX.out.trans (HB2.out.mono (by have := HZ.out; omega))⟩
  · have h1 : (W == W2) = false := by simpa using hW
    have HE := Lib.hid (show sameG (W, rows) (W2, rows2) = false by rw [HF.out, h1]; rfl)
    clear HF hW HK
    go_enter Try.func52, Try.ntmps52
    go_wp2
    go_ret
    exact ⟨by rw [HE.out]; rfl, HX.out⟩
set_option maxHeartbeats 1600000 in
theorem isGen : IsGenOp := fun w l h v b s0 f0 => by
  obtain ⟨W, rows⟩ := b
  obtain ⟨u, rfl, hw, ad, n, cap, rfl, s⟩ := id s0
  dsimp only at hw
  have hbig := s.big
  have hcap := s.le
  unfold maxLen at hbig
  have hB := Blk.new w (.int .i64 W) (.slice ad n cap) 34
  have hb := below_box w (.cells #[.int .i64 W, .slice ad n cap] 34)
  have HF := Lib.hid (show Gen.isGen (W, rows) = ((((decide (0 ≤ W) && decide (W ≤ 1000000000000)) && (decide ((1 : Int) ≤ n) && decide ((n : Int) ≤ 8))) && (decide ((1 : Int) ≤ colsOf rows) && decide ((colsOf rows : Int) ≤ 16))) && isMat rows) by
    unfold Gen.isGen
    have e1 : decide (1 ≤ rows.length) = decide ((1 : Int) ≤ n) := by rw [s.len]; apply decide_eq_decide.2; omega
    have e2 : decide (rows.length ≤ 8) = decide ((n : Int) ≤ 8) := by rw [s.len]; apply decide_eq_decide.2; omega
    have e3 : decide (1 ≤ colsOf rows) = decide ((1 : Int) ≤ colsOf rows) := by apply decide_eq_decide.2; omega
    have e4 : decide (colsOf rows ≤ 16) = decide ((colsOf rows : Int) ≤ 16) := by apply decide_eq_decide.2; omega
    dsimp only
    rw [e1, e2, e3, e4]
    generalize isMat rows = B3
    generalize (decide ((1 : Int) ≤ colsOf rows) && decide ((colsOf rows : Int) ≤ 16)) = B4
    cases B3 <;> cases B4 <;> simp)
  have H1 := Lib.hid (fun w' : World => inRange_is w' W 0 1000000000000)
  have H2 := Lib.hid (fun w' : World => inRange_is w' n 1 8)
  have H3 := Lib.hid (fun (w' : World) (t : Sls w' l h ad n cap rows) => MatI.isMat_is w' t)
  have H5 := Lib.hid (fun w' : World => inRange_is w' (colsOf rows) 1 16)
  have hS := GenerationI_below s0 hb (.inr (Nat.le_refl _))
  have HS := Lib.hid hS
  have HL := Lib.hid s.len
  have K1 := Lib.hid (size _ hS f0)
  have K2 := Lib.hid (fun (w' : World) (t : GenerationI w' l h (.agg #[.int .i64 W, .slice ad n cap]) (W, rows)) => width w' t f0)
  have HT := Lib.hid (s.below hb (.inr (Nat.le_refl _)))
  have HBk := Lib.hid hB
  have c0 := hB.c0
  have c1 := hB.c1
  have hz : (w.alloc (.cells #[.int .i64 W, .slice ad n cap] 34)).heap.size = w.heap.size + 1 := by simp
  have HZ := Lib.hid hz
  have HB := Lib.hid hb
  clear s hB hb hS hz s0 f0
  generalize (decide (0 ≤ W) && decide (W ≤ 1000000000000)) = B1 at *
  generalize (decide ((1 : Int) ≤ n) && decide ((n : Int) ≤ 8)) = B2 at *
  generalize isMat rows = B3 at *
  generalize (decide ((1 : Int) ≤ colsOf rows) && decide ((colsOf rows : Int) ≤ 16)) = B4 at *
  generalize Gen.isGen (W, rows) = R at *
  obtain rfl := HF.out
  clear HF
  cases B1
  · go_enter Try.func19, Try.ntmps19
    go_wp2_with fail
    go_at_call 55
    refine (H1.out _).mono ?_
    rintro e w1 ⟨rfl, rfl⟩
    go_wp2
    go_ret
    exact ⟨by simp, HB.out⟩
  go_enter Try.func19, Try.ntmps19
  go_wp2_with fail
  go_at_call 55
  generalize w.alloc (.cells #[.int .i64 W, .slice ad n cap] 34) = D at *
  refine (H1.out _).mono ?_
  rintro e w1 ⟨rfl, rfl⟩
  go_wp2_with fail
  go_at_call 21
  refine K1.out.mono ?_
  rintro e w2 ⟨rfl, b2⟩
  have HK2 := Lib.hid (HBk.out.below b2 (by have := HZ.out; omega))
  have c02 := HK2.out.c0
  have c12 := HK2.out.c1
  have HB2 := Lib.hid (HB.out.trans (b2.mono (by have := HZ.out; omega)))
  have HS2 := Lib.hid (GenerationI_below HS.out b2 (.inr (Nat.le_refl _)))
  have HT2 := Lib.hid (HT.out.below b2 (.inr (Nat.le_refl _)))
  have hz2 := Lib.hid b2.size
  have hl2 : (((W, rows) : Bs).2.length : Int) = n := by have := HL.out; simp [this]
  rw [hl2]
  clear b2 hl2
  go_wp2_with fail
  go_at_call 55
  refine (H2.out _).mono ?_
  rintro e w1 ⟨rfl, rfl⟩
  cases B2
  · go_wp2
    go_ret
    exact ⟨by simp, HB2.out⟩
  go_wp2_with fail
  go_at_call 20
  refine (K2.out _ HS2.out).mono ?_
  rintro e w3 ⟨rfl, b3⟩
  have HK3 := Lib.hid (HK2.out.below b3 (by have := HZ.out; have := hz2.out; omega))
  have c03 := HK3.out.c0
  have c13 := HK3.out.c1
  have HB3 := Lib.hid (HB2.out.trans (b3.mono (by have := HZ.out; have := hz2.out; omega)))
  have HT3 := Lib.hid (HT2.out.below b3 (.inr (Nat.le_refl _)))
  clear b3
  dsimp only
  go_wp2_with fail
  go_at_call 55
  refine (H5.out _).mono ?_
  rintro e w1 ⟨rfl, rfl⟩
  cases B4
  · go_wp2
    go_ret
    exact ⟨by simp, HB3.out⟩
  go_wp2_with fail
  go_at_call 60
  refine (H3.out _ HT3.out).mono ?_
  rintro e w1 ⟨rfl, rfl⟩
  go_wp2
  go_ret
  exact ⟨by simp, HB3.out⟩
end Go.Proofs.Ytkppkbafoeblhaa.GenI
namespace Go.Proofs.Ytkppkbafoeblhaa.GenI
open Go.RowKit Go.Shelf
open Go.Proofs.Ytkppkbafoeblhaa.Seq Go.Proofs.Ytkppkbafoeblhaa.Help Go.Proofs.Ytkppkbafoeblhaa.Field Go.Proofs.Ytkppkbafoeblhaa.FieldW Go.Proofs.Ytkppkbafoeblhaa.Vec Go.Proofs.Ytkppkbafoeblhaa.Gen
attribute [local go_sem] Oper.semAt_some

/-- What the iterator asks of a round: its two boxes. -/
def KeepB (b1 b2 : Nat) (W W' : World) : Prop := W'.heap[b1]? = W.heap[b1]? ∧ W'.heap[b2]? = W.heap[b2]?
theorem KeepB.trans {b1 b2 : Nat} {A B C : World} (h : KeepB b1 b2 A B) (k : KeepB b1 b2 B C) : KeepB b1 b2 A C := ⟨k.1.trans h.1, k.2.trans h.2⟩
theorem keepB_put {b1 b2 : Nat} {w : World} (h1 : b1 < w.heap.size) (h2 : b2 < w.heap.size) (W : World) (l : Nat) (o o' : Obj) (hl : w.heap.size ≤ l) (_ : W.heap[l]? = some o) (_ : o.isCells = false) (_ : o.isWalk = false) : KeepB b1 b2 W (W.putObj l o') :=
  ⟨World.putObj_heap_other (by omega), World.putObj_heap_other (by omega)⟩
/-- Piece x of a slice of m elements, cut into pieces of k. -/
def piece (ad : Option Addr) (m k x : Nat) : Value := .slice (ad.map (·.add (x * k))) (min k (m - x * k)) (min k (m - x * k))
theorem grown_of {w w' : World} (h : Below w.heap.size w w') : w.grownBy w' none := ⟨h.os, h.tape, h.output, h.size, fun k hk _ => h.block k hk⟩
theorem fin_more {C j : Nat} (h : j < C) : (List.finRange C).take (j + 1) = (List.finRange C).take j ++ [⟨j, h⟩] := by
  refine take_more ?_
  rw [List.getElem?_eq_getElem (by simpa using h)]
  simp

set_option maxRecDepth 100000 in
set_option maxHeartbeats 2000000 in
theorem chunk1Byte (n : Nat) (hn : 1 ≤ n) (l b1 b2 : Nat) {ad : Option Addr} {m cap k : Nat} (hm : m ≤ cap) (hcap : cap ≤ maxLen) (hnil : ad = none → cap = 0) (hk0 : 0 < k) (hk : k ≤ 1048576) (hms : m ≤ 1099511627776)
    (B0 : Nat) (J Jx : List (Fin (cuts k m)) → World → Prop) (hJ : AbidesFrom B0 J) (W : World)
    (hY : ∀ pre (x : Fin (cuts k m)) W, J pre W → pre.length < cuts k m → YieldAt Fence.wide (n - 1) Try.prog l #[piece ad m k x] W fun e W' =>
      (e = .returned (.bool true) ∧ J (pre ++ [x]) W' ∧ KeepB b1 b2 W W') ∨ (e = .returned (.bool false) ∧ Jx (pre ++ [x]) W'))
    (hB1 : Boxed W b1 22 (.slice ad m cap)) (hB2 : Boxed W b2 3 (.int .i64 k)) (h0 : J [] W) :
    CallsIn Fence.wide n Try.prog 84 #[.func (.yield l) #[] #[], .pointer (some ⟨b1, 0, none⟩), .pointer (some ⟨b2, 0, none⟩)] W fun e W' => (∃ v, e = .returned v) ∧
      ((∃ zs, zs = List.finRange (cuts k m) ∧ J zs W') ∨ (∃ pre, pre <+: List.finRange (cuts k m) ∧ Jx pre W')) := by
  have hcap' := hcap
  unfold maxLen at hcap'
  refine callsIn_of_wp Try.func84 rfl trivial ?_ rfl
  simp only [Try.ntmps84, List.size_toArray, List.length_cons, List.length_nil, Nat.reduceAdd, Nat.reduceSub, Array.replicate_succ, Array.replicate_zero, List.push_toArray, List.append_toArray, List.nil_append, List.cons_append]
  gi_wp2
  gi_loopw [4] (fun i wr => ∃ j : Nat, j ≤ cuts k m ∧ i = .int .i64 ((j * k : Nat) : Int) ∧ J ((List.finRange (cuts k m)).take j) wr ∧ KeepB b1 b2 W wr) (fun i _ => m + k - (intOf i).toNat)
  case atStart => exact ⟨0, Nat.zero_le _, by simp, by simpa using h0, rfl, rfl⟩
  case round =>
    obtain ⟨j, hj, rfl, hJs, hkb⟩ := hrel
    have hB1' : Boxed wr b1 22 (.slice ad m cap) := hkb.1.trans hB1
    have hB2' : Boxed wr b2 3 (.int .i64 k) := hkb.2.trans hB2
    have c1 := hB1'.cell
    have c2 := hB2'.cell
    obtain ⟨q, hq⟩ : ∃ q, q = j * k := ⟨_, rfl⟩
    by_cases hlt : q < m
    · have hjc : j < cuts k m := (cuts_lt hk0).2 (by omega)
      obtain ⟨A, rfl⟩ : ∃ A, ad = some A := by cases ad with | none => (have := hnil rfl; omega) | some A => exact ⟨A, rfl⟩
      have c1D : wr.drew.cell? ⟨b1, 0, none⟩ = some (.slice (some A) m cap) := c1
      have c2D : wr.drew.cell? ⟨b2, 0, none⟩ = some (.int .i64 k) := c2
      have hJ2 : J ((List.finRange (cuts k m)).take j) wr.drew := hJ _ _ _ none hJs (grown_of ((Below.refl _ _).drew)) (fun r e => by cases e)
      obtain ⟨fn, tmps, assign, body, hyl, hR⟩ := hY _ ⟨j, hjc⟩ wr.drew hJ2 (by rw [List.length_take, List.length_finRange]; omega)
      have HM := Lib.hid (fin_more hjc)
      have hmul : (j + 1) * k = j * k + k := Nat.succ_mul j k
      unfold piece at hyl
      dsimp only [Option.map_some] at hyl
      rw [← hq] at hmul hyl ⊢
      have HQ := Lib.hid hq
      have HR := Lib.hid hR
      have HKB := Lib.hid hkb
      clear hJs hJ2 hY hR hq hkb
      have hite : (if m - q < k then ((m - q : Nat) : Int) else (k : Int)) = ((min k (m - q) : Nat) : Int) := by split <;> omega
      have hE : 0 < min k (m - q) ∧ q + min k (m - q) ≤ m ∧ min k (m - q) ≤ k := by omega
      gi_wp2
      gi_region
      clear hite
      generalize min k (m - q) = E at *
      obtain ⟨hE0, hE1, hE2⟩ := hE
      gi_wp2
      refine HR.out.mono ?_
      rintro e W3 (⟨rfl, hJ3, hk3⟩ | ⟨rfl, hJx3⟩)
      · have c23 : W3.cell? ⟨b2, 0, none⟩ = some (.int .i64 k) := (show Boxed W3 b2 3 (.int .i64 k) from hk3.2.trans hB2').cell
        gi_wp2
        go_roundw
        case rel => exact ⟨j + 1, by omega, by rw [hmul]; simp, by rw [HM.out]; exact hJ3, HKB.out.trans hk3⟩
        case measure => simp [intOf]; omega
      · gi_wp2
        refine bodyPost_ret (results_none rfl _ _ _) rfl ?_
        exact ⟨⟨_, rfl⟩, .inr ⟨_, by rw [← HM.out]; exact List.take_prefix _ _, hJx3⟩⟩
    · have HE := Lib.hid (GenW.cut_end hk0 (show ¬ j * k < m by omega) hj)
      rw [HE.out, List.take_of_length_le (by simp)] at hJs
      have HJ := Lib.hid hJs
      clear hJs
      rw [← hq]
      gi_wp2
      go_end0
      exact ⟨⟨_, rfl⟩, .inl ⟨_, rfl, HJ.out⟩⟩
/-- The two boxes that the iterator reads. -/
def boxesByte (w : World) (a b : Value) : World := (w.alloc (.cells #[a] 22)).alloc (.cells #[b] 3)
theorem chunkFnByte (w : World) (ad : Option Addr) (n cap k : Nat) (hk0 : 0 < k) (hk : k ≤ 1048576) :
    Calls Try.prog 63 #[.slice ad n cap, .int .i64 k] w fun e w' => e = .returned (.func (.func 84) #[] #[.pointer (some ⟨w.heap.size, 0, none⟩), .pointer (some ⟨w.heap.size + 1, 0, none⟩)]) ∧ w' = boxesByte w (.slice ad n cap) (.int .i64 k) := by
  have h1 : ¬ ((k : Int) < 1) := by omega
  go_enter Try.func63, Try.ntmps63
  go_wp2
  go_ret
  exact ⟨rfl, rfl⟩
set_option maxRecDepth 100000 in
set_option maxHeartbeats 2000000 in
theorem chunk1Rows (n : Nat) (hn : 1 ≤ n) (l b1 b2 : Nat) {ad : Option Addr} {m cap k : Nat} (hm : m ≤ cap) (hcap : cap ≤ maxLen) (hnil : ad = none → cap = 0) (hk0 : 0 < k) (hk : k ≤ 1048576) (hms : m ≤ 1099511627776)
    (B0 : Nat) (J Jx : List (Fin (cuts k m)) → World → Prop) (hJ : AbidesFrom B0 J) (W : World)
    (hY : ∀ pre (x : Fin (cuts k m)) W, J pre W → pre.length < cuts k m → YieldAt Fence.wide (n - 1) Try.prog l #[piece ad m k x] W fun e W' =>
      (e = .returned (.bool true) ∧ J (pre ++ [x]) W' ∧ KeepB b1 b2 W W') ∨ (e = .returned (.bool false) ∧ Jx (pre ++ [x]) W'))
    (hB1 : Boxed W b1 32 (.slice ad m cap)) (hB2 : Boxed W b2 3 (.int .i64 k)) (h0 : J [] W) :
    CallsIn Fence.wide n Try.prog 81 #[.func (.yield l) #[] #[], .pointer (some ⟨b1, 0, none⟩), .pointer (some ⟨b2, 0, none⟩)] W fun e W' => (∃ v, e = .returned v) ∧
      ((∃ zs, zs = List.finRange (cuts k m) ∧ J zs W') ∨ (∃ pre, pre <+: List.finRange (cuts k m) ∧ Jx pre W')) := by
  have hcap' := hcap
  unfold maxLen at hcap'
  refine callsIn_of_wp Try.func81 rfl trivial ?_ rfl
  simp only [Try.ntmps81, List.size_toArray, List.length_cons, List.length_nil, Nat.reduceAdd, Nat.reduceSub, Array.replicate_succ, Array.replicate_zero, List.push_toArray, List.append_toArray, List.nil_append, List.cons_append]
  gi_wp2
  gi_loopw [4] (fun i wr => ∃ j : Nat, j ≤ cuts k m ∧ i = .int .i64 ((j * k : Nat) : Int) ∧ J ((List.finRange (cuts k m)).take j) wr ∧ KeepB b1 b2 W wr) (fun i _ => m + k - (intOf i).toNat)
  case atStart => exact ⟨0, Nat.zero_le _, by simp, by simpa using h0, rfl, rfl⟩
  case round =>
    obtain ⟨j, hj, rfl, hJs, hkb⟩ := hrel
    have hB1' : Boxed wr b1 32 (.slice ad m cap) := hkb.1.trans hB1
    have hB2' : Boxed wr b2 3 (.int .i64 k) := hkb.2.trans hB2
    have c1 := hB1'.cell
    have c2 := hB2'.cell
    obtain ⟨q, hq⟩ : ∃ q, q = j * k := ⟨_, rfl⟩
    by_cases hlt : q < m
    · have hjc : j < cuts k m := (cuts_lt hk0).2 (by omega)
      obtain ⟨A, rfl⟩ : ∃ A, ad = some A := by cases ad with | none => (have := hnil rfl; omega) | some A => exact ⟨A, rfl⟩
      have c1D : wr.drew.cell? ⟨b1, 0, none⟩ = some (.slice (some A) m cap) := c1
      have c2D : wr.drew.cell? ⟨b2, 0, none⟩ = some (.int .i64 k) := c2
      have hJ2 : J ((List.finRange (cuts k m)).take j) wr.drew := hJ _ _ _ none hJs (grown_of ((Below.refl _ _).drew)) (fun r e => by cases e)
      obtain ⟨fn, tmps, assign, body, hyl, hR⟩ := hY _ ⟨j, hjc⟩ wr.drew hJ2 (by rw [List.length_take, List.length_finRange]; omega)
      have HM := Lib.hid (fin_more hjc)
      have hmul : (j + 1) * k = j * k + k := Nat.succ_mul j k
      unfold piece at hyl
      dsimp only [Option.map_some] at hyl
      rw [← hq] at hmul hyl ⊢
      have HQ := Lib.hid hq
      have HR := Lib.hid hR
      have HKB := Lib.hid hkb
      clear hJs hJ2 hY hR hq hkb
      have hite : (if m - q < k then ((m - q : Nat) : Int) else (k : Int)) = ((min k (m - q) : Nat) : Int) := by split <;> omega
      have hE : 0 < min k (m - q) ∧ q + min k (m - q) ≤ m ∧ min k (m - q) ≤ k := by omega
      gi_wp2
      gi_region
      clear hite
      generalize min k (m - q) = E at *
      obtain ⟨hE0, hE1, hE2⟩ := hE
      gi_wp2
      refine HR.out.mono ?_
      rintro e W3 (⟨rfl, hJ3, hk3⟩ | ⟨rfl, hJx3⟩)
      · have c23 : W3.cell? ⟨b2, 0, none⟩ = some (.int .i64 k) := (show Boxed W3 b2 3 (.int .i64 k) from hk3.2.trans hB2').cell
        gi_wp2
        go_roundw
        case rel => exact ⟨j + 1, by omega, by rw [hmul]; simp, by rw [HM.out]; exact hJ3, HKB.out.trans hk3⟩
        case measure => simp [intOf]; omega
      · gi_wp2
        refine bodyPost_ret (results_none rfl _ _ _) rfl ?_
        exact ⟨⟨_, rfl⟩, .inr ⟨_, by rw [← HM.out]; exact List.take_prefix _ _, hJx3⟩⟩
    · have HE := Lib.hid (GenW.cut_end hk0 (show ¬ j * k < m by omega) hj)
      rw [HE.out, List.take_of_length_le (by simp)] at hJs
      have HJ := Lib.hid hJs
      clear hJs
      rw [← hq]
      gi_wp2
      go_end0
      exact ⟨⟨_, rfl⟩, .inl ⟨_, rfl, HJ.out⟩⟩
/-- The two boxes that the iterator reads. -/
def boxesRows (w : World) (a b : Value) : World := (w.alloc (.cells #[a] 32)).alloc (.cells #[b] 3)
theorem chunkFnRows (w : World) (ad : Option Addr) (n cap k : Nat) (hk0 : 0 < k) (hk : k ≤ 1048576) :
    Calls Try.prog 56 #[.slice ad n cap, .int .i64 k] w fun e w' => e = .returned (.func (.func 81) #[] #[.pointer (some ⟨w.heap.size, 0, none⟩), .pointer (some ⟨w.heap.size + 1, 0, none⟩)]) ∧ w' = boxesRows w (.slice ad n cap) (.int .i64 k) := by
  have h1 : ¬ ((k : Int) < 1) := by omega
  go_enter Try.func56, Try.ntmps56
  go_wp2
  go_ret
  exact ⟨rfl, rfl⟩
end Go.Proofs.Ytkppkbafoeblhaa.GenI
namespace Go.Proofs.Ytkppkbafoeblhaa.GenI
open Go.ChangeShapes Go.WideShapes Go.ChangeAt Go.RowKit
open Go.Proofs.Ytkppkbafoeblhaa.Seq Go.Proofs.Ytkppkbafoeblhaa.Help Go.Proofs.Ytkppkbafoeblhaa.Field Go.Proofs.Ytkppkbafoeblhaa.FieldW Go.Proofs.Ytkppkbafoeblhaa.Vec Go.Proofs.Ytkppkbafoeblhaa.VecW Go.Proofs.Ytkppkbafoeblhaa.VecOps Go.Proofs.Ytkppkbafoeblhaa.Mat Go.Proofs.Ytkppkbafoeblhaa.MatW Go.Proofs.Ytkppkbafoeblhaa.Shape Go.Proofs.Ytkppkbafoeblhaa.Gen Go.Proofs.Ytkppkbafoeblhaa.GenW

section
variable {w : World} {l h : Nat} {k : IntKind} {e : TypeId} {ad : Option Addr} {n cap : Nat} {xs : List Int}
theorem slv (s : Sl w l h k ad n cap xs) : SlV w l h ad n cap (xs.map (.int k)) :=
  ⟨by rw [List.length_map]; exact s.len, s.le, s.big, s.nil, fun u hu => by obtain ⟨x, _, rfl⟩ := List.mem_map.1 hu; rfl, fun j u hu => by
    rw [List.getElem?_map] at hu
    obtain ⟨x, hx, rfl⟩ := Option.map_eq_some_iff.1 hu
    exact s.cells j x hx⟩
theorem rowv (r : Row w l h k e ad n cap xs) : RowV w l h e ad n cap (xs.map (.int k)) :=
  ⟨by rw [List.length_map]; exact r.len, r.le, r.big, fun u hu => by obtain ⟨x, _, rfl⟩ := List.mem_map.1 hu; rfl, r.own⟩
theorem rowi (r : RowV w l h e ad n cap (xs.map (.int k))) (hf : ∀ x ∈ xs, Fits k x) : Row w l h k e ad n cap xs :=
  ⟨by have := r.len; rwa [List.length_map] at this, r.le, r.big, hf, r.own⟩
end
theorem clByte (w : World) (x : Int) (h : Fits .u8 x) : Calls Try.prog 87 #[.int .u8 x] w (SaysI x w) := by
  obtain ⟨h0, h1⟩ := fits_u8.1 h
  go_enter Try.func87, Try.ntmps87
  go_wp2
  go_ret
  exact ⟨by simp, Below.refl _ _⟩
set_option maxRecDepth 100000 in
theorem mapBytes (w : World) {l h : Nat} {ad : Option Addr} {n cap : Nat} {ys : List Int} (s : Sl w l h .u8 ad n cap ys) (hn : n ≤ 1048576) :
    Calls Try.prog 86 #[.slice ad n cap, .func (.func 87) #[] #[]] w (Gives .i64 3 ys w) := by
  have hcap := s.le
  have hyl : ys.length = n := s.len
  have HF := Lib.hid s.fits
  go_enter Try.func86, Try.ntmps86
  go_wp2_with (at_make; refine wpList_mk (n := n) Try.underlying91 info_int (fits_i64.2 (by omega)) (by unfold maxLen; omega) (by omega) rfl _ _ rfl rfl rfl ?_; intro w1 hr1 hb1)
  rw [show List.replicate n (0 : Int) = ys.take 0 ++ (List.replicate n 0).drop 0 by simp] at hr1
  go_loopw [13] (fun i wr => ∃ (j : Nat), j ≤ n ∧ i = .int .i64 j ∧ Row wr w.heap.size wr.heap.size .i64 3 (some ⟨w.heap.size, 0, none⟩) n n (ys.take j ++ (List.replicate n 0).drop j) ∧ Below w.heap.size w wr) (fun i _ => n - (intOf i).toNat)
  case atStart => exact ⟨0, Nat.zero_le _, rfl, hr1, hb1⟩
  case round =>
    obtain ⟨j, hj, rfl, hr, hb⟩ := hrel
    by_cases hlt : j < n
    · obtain ⟨a, y, rfl, hx, hc⟩ := (s.below hb (.inr (Nat.le_refl _))).at_ hlt
      have hfy := HF.out y (List.mem_of_getElem? hx.get)
      have hf : Fits .i64 y := by have := fits_u8.1 hfy; exact fits_i64.2 (by omega)
      have HO := Lib.hid (MatI.over_z (n := n) (xs := List.replicate n 0) (by simp) hyl hlt hx.get)
      have HC := Lib.hid (clByte wr y hfy)
      clear hx
      go_wp2_with fail
      go_at_call 87
      refine HC.out.mono ?_
      rintro e w2 ⟨rfl, b3⟩
      have z3 := b3.size
      have zb := hb.size
      replace hr := (hr.below b3 (.inr (Nat.le_refl _))).mono z3
      obtain ⟨y0, _, _, hc0, hf0⟩ := hr.there hlt
      have hput := hr.set hlt hf
      rw [HO.out] at hput
      have HP := Lib.hid hput
      have hb2 := Lib.hid (hb.trans (b3.mono zb))
      clear hput hr b3
      go_wp2
      go_roundw
      case rel => exact ⟨j + 1, by omega, by go_num, HP.out.1.lt, hb2.out.trans (HP.out.2.below (Nat.le_refl _) hb2.out.size)⟩
      case measure => simp [intOf]; omega
    · obtain rfl : j = n := by omega
      rw [List.take_of_length_le (Nat.le_of_eq hyl), List.drop_eq_nil_of_le (by simp), List.append_nil] at hr
      have HG := Lib.hid hr
      clear hr
      go_wp2
      go_ret
      exact ⟨_, _, _, rfl, HG.out, hb⟩
set_option maxRecDepth 100000 in
theorem symbolOf (w : World) {l h : Nat} {A : Addr} {n cap : Nat} {part : List Int} (s : Sl w l h .u8 (some A) n cap part) (W : Nat) (hW : W ≤ 16) (hn : n ≤ W) :
    Calls Try.prog 65 #[.slice (some A) n cap, .int .i64 W] w (Gives .i64 3 (part ++ List.replicate (W - n) 0) w) := by
  have HL := Lib.hid s.len
  have HF := Lib.hid s.fits
  go_enter Try.func65, Try.ntmps65
  go_wp2_with (at_make; refine wpList_mk (n := W) Try.underlying22 info_uint8 (fits_u8.2 (by omega)) (by unfold maxLen; omega) (by omega) rfl _ _ rfl rfl rfl ?_; intro w1 hr1 hb1)
  have s1 := s.below hb1 (.inr (Nat.le_refl _))
  have hcp := run_copyV (P := Try.prog) (ty := 3) (dl := W) (dc := W) (o := 0) Try.underlying22 (by rfl) (rowv hr1) (slv s1) hn (by omega)
  obtain ⟨r2, m2⟩ := (rowv hr1).setCells 0 (vs := part.map (.int .u8)) (by rw [List.length_map, HL.out]; omega) (slv s1).one
  generalize w1.setCells w.heap.size 0 (part.map (.int .u8)) = w2 at *
  have r3 : Row w2 w.heap.size w1.heap.size .u8 5 (some ⟨w.heap.size, 0, none⟩) W W (part ++ List.replicate (W - n) 0) := rowi (by
    have e : (part ++ List.replicate (W - n) 0).map (Value.int .u8) = List.take 0 ((List.replicate W 0).map (Value.int .u8)) ++ part.map (.int .u8) ++ ((List.replicate W 0).map (Value.int .u8)).drop (0 + (part.map (Value.int .u8)).length) := by
      simp [HL.out]
    rw [e]; exact r2) (fun x hx => by
      rcases List.mem_append.1 hx with hx | hx
      · exact HF.out x hx
      · rw [List.eq_of_mem_replicate hx]; exact fits_u8.2 (by omega))
  have hb2 := hb1.trans (m2.below (Nat.le_refl _) hb1.size)
  have KM := Lib.hid (mapBytes w2 r3.sl (by omega))
  have HB := Lib.hid hb2
  have HC := Lib.hid hcp
  clear hcp r3 r2 m2 hr1 s1 s hb2
  go_wp2_with fail
  rw [HC.out]
  go_wp2_with fail
  go_at_call 86
  refine KM.out.mono ?_
  rintro e w3 ⟨ad3, n3, cap3, rfl, r3, b3⟩
  have HR := Lib.hid r3
  clear r3
  go_wp2
  go_ret
  exact ⟨_, _, _, rfl, HR.out.lo HB.out.size, HB.out.trans (b3.mono HB.out.size)⟩
end Go.Proofs.Ytkppkbafoeblhaa.GenI
namespace Go.Proofs.Ytkppkbafoeblhaa.GenI
open Go.RowKit Go.Shelf
open Go.Proofs.Ytkppkbafoeblhaa.Seq Go.Proofs.Ytkppkbafoeblhaa.Help Go.Proofs.Ytkppkbafoeblhaa.Field Go.Proofs.Ytkppkbafoeblhaa.FieldW Go.Proofs.Ytkppkbafoeblhaa.Vec Go.Proofs.Ytkppkbafoeblhaa.Mat Go.Proofs.Ytkppkbafoeblhaa.Shape Go.Proofs.Ytkppkbafoeblhaa.Uv Go.Proofs.Ytkppkbafoeblhaa.Enc Go.Proofs.Ytkppkbafoeblhaa.EncW Go.Proofs.Ytkppkbafoeblhaa.Gen Go.Proofs.Ytkppkbafoeblhaa.GenW
attribute [local go_sem] Oper.semAt_some

/-- A region of a round that ends in a store. -/
theorem wpIn_region_last {P : Program} {ops : Array Oper} {Q : Exit → Act → World → Prop} {l n : Nat} {S : World → Prop} {id : Nat} {a : Act} {w : World} (s : Nat) (hm : P.follows .mixedOrders = true) (hp : ops.all Round.plain = true) (hQ : ∀ a w, ¬ Q .outgrown a w)
    (hb : Drawn.lastB .any ops s = true) (hl : (Array.replicate ops.size false).getD s true = false)
    (h : wpAnyH P .any (Drawn.cutAt ops s) (Drawn.Ahead P ops s Q) S ops.size (Array.replicate ops.size false) a w.drew) : (Code.region id ops true).wpIn (Fence.wide.inRound l) n P Q a w :=
  wpIn_region_any hm (Round.wpAny_round hp hQ _ _ _ _ (Drawn.wpAny_last hb _ _ _ _ (by simp) hl (wpAny_of_held _ _ _ _ h)))

theorem row_part {w n i : Nat} {xs : List Int} (hx : xs.length = n) (h : i * w ≤ n) : (xs.drop (i * w)).take (min w (n - i * w)) ++ List.replicate (w - min w (n - i * w)) 0 = Gen.rowAt w xs i := by
  apply List.ext_getElem?
  intro j
  unfold Gen.rowAt
  rw [List.getElem?_map]
  by_cases h1 : j < w
  · rw [List.getElem?_range h1, Option.map_some]
    by_cases h2 : j < min w (n - i * w)
    · rw [List.getElem?_append_left (by rw [List.length_take, List.length_drop]; omega), List.getElem?_take, if_pos h2, List.getElem?_drop, List.getElem?_eq_getElem (by omega)]; rfl
    · rw [List.getElem?_append_right (by rw [List.length_take, List.length_drop]; omega), List.getElem?_replicate, if_pos (by rw [List.length_take, List.length_drop]; omega), List.getElem?_eq_none (by omega)]; rfl
  · rw [List.getElem?_eq_none (by rw [List.length_append, List.length_take, List.length_drop, List.length_replicate]; omega), List.getElem?_eq_none (by simp; omega)]; rfl
theorem sym_fin (w : Nat) (xs : List Int) : (List.finRange (cuts w xs.length)).map (fun i => Gen.rowAt w xs i.val) = Gen.sym w xs := by
  unfold Gen.sym
  apply List.ext_getElem (by simp)
  intro i h1 h2
  simp
theorem apb_nil (xs : List Int) (h : xs.length ≤ 400) : apb [] xs = uv xs.length ++ xs := by
  unfold apb
  rw [app_in (by omega), List.nil_append]

set_option maxRecDepth 100000 in
set_option maxHeartbeats 3200000 in
theorem toSym : ToSymOp := fun w l h v xs s0 f W hW0 hW1 => by
  obtain ⟨ad, n, cap, rfl, s⟩ := s0
  have hn : n ≤ 1048576 := by have h1 := s.len; unfold ByteSF at f; omega
  have hle := s.le
  have hbig := s.big
  unfold maxLen at hbig
  have hL := Lib.hid s.len
  have V1 := fun o o1 o2 => inRange_is (((w.alloc o).alloc o1).alloc o2) W 1 16
  have hB0 : ∀ o o1 o2, Below w.heap.size w (((w.alloc o).alloc o1).alloc o2) := fun o o1 o2 => (((Below.refl _ w).alloc (Nat.le_refl _) _).alloc (by simp) _).alloc (by simp; omega) _
  cases hok : symOk W xs.length
  · have HE := Lib.hid (toSym_no hok)
    rw [HE.out]
    unfold symOk at hok
    rw [hL.out] at hok
    cases hr : (decide (1 ≤ W) && decide (W ≤ 16))
    · rw [hr] at V1
      have V1 := Lib.hid V1
      have hB0 := Lib.hid hB0
      clear hok hr s f
      go_enter Try.func23, Try.ntmps23
      go_wp2_with fail
      go_at_call 55
      refine (V1.out _ _ _).mono ?_
      rintro e w' ⟨rfl, rfl⟩
      go_wp2
      go_ret
      exact ⟨_, rfl, ⟨_, _, _, _, rfl, Net.nil _ _ _ _ _ _ (by unfold maxLen; omega) (fun e => by cases e)⟩, hB0.out _ _ _⟩
    · rw [hr] at V1 hok
      have hn4 : (400 : Int) < n := by simp at hok; omega
      have V1 := Lib.hid V1
      have hB0 := Lib.hid hB0
      clear hok hr s f
      go_enter Try.func23, Try.ntmps23
      go_wp2_with fail
      go_at_call 55
      refine (V1.out _ _ _).mono ?_
      rintro e w' ⟨rfl, rfl⟩
      go_wp2
      go_ret
      exact ⟨_, rfl, ⟨_, _, _, _, rfl, Net.nil _ _ _ _ _ _ (by unfold maxLen; omega) (fun e => by cases e)⟩, hB0.out _ _ _⟩
  obtain ⟨⟨hw1, hw2⟩, hx4⟩ := symOk_iff.1 hok
  have HT := Lib.hid (toSym_ok hok)
  rw [HT.out]
  rw [show (decide (1 ≤ W) && decide (W ≤ 16)) = true by simp; omega] at V1
  obtain ⟨K, rfl⟩ : ∃ K : Nat, W = K := ⟨W.toNat, by omega⟩
  rw [Int.toNat_natCast]
  have hn4 : ¬ ((400 : Int) < n) := by rw [hL.out] at hx4; omega
  have V1 := Lib.hid V1
  have hB0 := Lib.hid hB0
  have HAP := Lib.hid (apb_nil xs hx4)
  have hyl : (uv xs.length ++ xs).length ≤ 406 := by rw [List.length_append]; have := uv_len6 (n := xs.length) (by omega); omega
  have hyp : 0 < (uv xs.length ++ xs).length := by rw [List.length_append]; have := uv_pos xs.length; omega
  generalize uv xs.length ++ xs = ys at *
  clear hok HT
  refine (callsIn_wide (n := 3)).1 ?_
  refine callsIn_of_wp_marks Try.func23 rfl trivial ?_ rfl
  simp only [Try.ntmps23, List.size_toArray, List.length_cons, List.length_nil, Nat.reduceAdd, Nat.reduceSub, Array.replicate_succ, Array.replicate_zero, List.push_toArray, List.append_toArray, List.nil_append, List.cons_append]
  gi_wp2_with fail
  refine ⟨trivial, ?_⟩
  refine (callsIn_wide.2 (V1.out _ _ _)).mono ?_
  rintro e w2 ⟨rfl, rfl⟩
  gi_wp2
  refine wpIn_wide.2 ?_
  have bK := ((Boxed.new w 3 (.int .i64 K)).alloc (.cells #[] 43)).alloc (.cells #[.slice (some ⟨w.heap.size + 1, 0, none⟩) 0 0] 32)
  have bO := Boxed.new ((w.alloc (.cells #[.int .i64 K] 3)).alloc (.cells #[] 43)) 32 (.slice (some ⟨w.heap.size + 1, 0, none⟩) 0 0)
  rw [World.size_alloc, World.size_alloc] at bO
  have sol : Solid (((w.alloc (.cells #[.int .i64 K] 3)).alloc (.cells #[] 43)).alloc (.cells #[.slice (some ⟨w.heap.size + 1, 0, none⟩) 0 0] 32)) (some ⟨w.heap.size + 1, 0, none⟩) := fun g e => by
    obtain rfl := (Addr.mk.inj (Option.some.inj e)).1
    refine ⟨.cells #[] 43 (0, 0), (Below.heap_alloc _ _ _ (by simp)).trans ?_, rfl⟩
    have := World.alloc_heap_new (w.alloc (.cells #[.int .i64 K] 3)) (.cells #[] 43)
    rwa [World.size_alloc] at this
  have hb0 := hB0.out (.cells #[.int .i64 K] 3) (.cells #[] 43) (.cells #[.slice (some ⟨w.heap.size + 1, 0, none⟩) 0 0] 32)
  have hz0 : (((w.alloc (.cells #[.int .i64 K] 3)).alloc (.cells #[] 43)).alloc (.cells #[.slice (some ⟨w.heap.size + 1, 0, none⟩) 0 0] 32)).heap.size = w.heap.size + 3 := by simp
  refine Round.wp_safe ?_
  refine wp_region_held (S := fun w' => w'.cell? ⟨w.heap.size, 0, none⟩ = some (.int .i64 K)) (by kernel_rfl) ?_
  change wpAnyH _ _ _ _ _ _ _ _ (World.drew _)
  generalize ((w.alloc (.cells #[.int .i64 K] 3)).alloc (.cells #[] 43)).alloc (.cells #[.slice (some ⟨w.heap.size + 1, 0, none⟩) 0 0] 32) = D0 at *
  replace bK : Boxed D0.drew w.heap.size 3 (.int .i64 K) := bK
  replace bO : Boxed D0.drew (w.heap.size + 1 + 1) 32 (.slice (some ⟨w.heap.size + 1, 0, none⟩) 0 0) := bO
  replace sol : Solid D0.drew (some ⟨w.heap.size + 1, 0, none⟩) := sol
  replace hb0 : Below w.heap.size w D0.drew := hb0.drew
  replace hz0 : D0.drew.heap.size = w.heap.size + 3 := hz0
  generalize D0.drew = D at *
  have HH := Lib.hid (show D.cell? ⟨w.heap.size, 0, none⟩ = some (.int .i64 K) from bK.cell)
  have KA := Lib.hid (impl_apb D (Sl.none D 0 0 .u8 none 0 (by unfold maxLen; omega) (fun _ => rfl)) (by omega) (s.below hb0 (.inr (Nat.le_refl _))) (by omega))
  rw [HAP.out] at KA
  clear s f
  refine wpAnyH_take (i := 0) (oi := ⟨some _, _, _, _, _, _⟩) (v := ?_) rfl (by kernel_rfl) (by kernel_rfl) (by kernel_rfl) (fun _ _ _ h => h) (Or.inl ⟨by rfl, ?_⟩) HH.out ?_
  rotate_left
  · intro wS hSw
    try dsimp only at hSw
    go_simp
    all_goals (with_reducible rfl)
  simp only [Act.put, List.setIfInBounds_toArray, List.set_cons_zero, List.set_cons_succ]
  refine wpAnyH_take (i := 2) (oi := ⟨some _, _, _, _, _, _⟩) (v := ?_) rfl (by kernel_rfl) (by kernel_rfl) (by kernel_rfl) (fun _ _ _ h => h) (Or.inl ⟨by rfl, ?_⟩) HH.out ?_
  rotate_left
  · intro wS hSw
    try dsimp only at hSw
    go_simp
    all_goals (with_reducible rfl)
  simp only [Act.put, List.setIfInBounds_toArray, List.set_cons_zero, List.set_cons_succ]
  refine wpAnyH_ready (rs := [1]) (by kernel_rfl) (by simp) ?_
  refine AllReadyH.cons (o := ⟨some _, _, _, _, _, _⟩) rfl (fun Kq hKq => ?_) AllReadyH.nil
  go_simp
  refine KA.out.mono ?_
  rintro e y1 ⟨adY, m, capY, rfl, rY, bY⟩
  have hzY := bY.size
  replace bK := box_below bK bY (by omega)
  replace bO := box_below bO bY (by omega)
  replace sol := sol.below bY (Nat.le_refl _)
  replace hb0 := hb0.trans (bY.mono (by omega))
  have hmy := rY.len
  clear HH bY
  have HH := Lib.hid (show y1.cell? ⟨w.heap.size, 0, none⟩ = some (.int .i64 K) from bK.cell)
  refine hKq.out _ _ HH.out (fun _ => ?_)
  clear hKq Kq
  refine wpAnyH_ready (rs := [3]) (by kernel_rfl) (by simp) ?_
  refine AllReadyH.cons (o := ⟨some _, _, _, _, _, _⟩) rfl (fun Kq hKq => ?_) AllReadyH.nil
  go_simp
  refine (chunkFnByte y1 adY m capY K (by omega) (by omega)).mono ?_
  rintro e y2 ⟨rfl, rfl⟩
  have bA := (Boxed.new y1 22 (.slice adY m capY)).alloc (.cells #[.int .i64 K] 3)
  have bB := Boxed.new (y1.alloc (.cells #[.slice adY m capY] 22)) 3 (.int .i64 K)
  rw [World.size_alloc] at bB
  replace bK := (bK.alloc (.cells #[.slice adY m capY] 22)).alloc (.cells #[.int .i64 K] 3)
  replace bO := (bO.alloc (.cells #[.slice adY m capY] 22)).alloc (.cells #[.int .i64 K] 3)
  have rY2 := (rY.alloc (.cells #[.slice adY m capY] 22)).alloc (.cells #[.int .i64 K] 3)
  have kc2 : Kc y1 (boxesByte y1 (.slice adY m capY) (.int .i64 K)) := kc_of (World.grownBy_alloc _ _ none |>.trans (World.grownBy_alloc _ _ none)) (fun r e => by cases e)
  replace sol := sol.kc kc2
  have hz2 : (boxesByte y1 (.slice adY m capY) (.int .i64 K)).heap.size = y1.heap.size + 2 := by unfold boxesByte; simp
  replace hb0 : Below w.heap.size w (boxesByte y1 (.slice adY m capY) (.int .i64 K)) := (hb0.alloc (by omega) _).alloc (by simp; omega) _
  change Boxed (boxesByte _ _ _) _ _ _ at bK
  change Boxed (boxesByte _ _ _) _ _ _ at bO
  change Boxed (boxesByte _ _ _) _ _ _ at bA
  change Boxed (boxesByte _ _ _) _ _ _ at bB
  change Row (boxesByte _ _ _) _ _ _ _ _ _ _ _ at rY2
  clear rY HH kc2
  generalize boxesByte y1 (.slice adY m capY) (.int .i64 K) = W1 at *
  refine hKq.out _ _ bK.cell (fun _ => ?_)
  clear hKq Kq
  refine wpAnyH_done (by kernel_rfl) ?_ _
  gi_wp2
  obtain ⟨A, rfl⟩ : ∃ A, adY = some A := by
    obtain ⟨g, e1, _⟩ := rY2.pos (by omega)
    exact ⟨_, e1⟩
  have hmm : m ≤ capY := rY2.le
  have hmx : capY ≤ maxLen := rY2.big
  have hI0 : Grid W1 W1.heap.size W1.heap.size 3 43 (some ⟨w.heap.size + 1, 0, none⟩) 0 0 [] [] := Grid.nil _ _ _ _ _ _
  subst hmy
  have HRP := Lib.hid (fun (i : Nat) (h : i * K ≤ ys.length) => row_part (w := K) (xs := ys) rfl h)
  have HSF := Lib.hid (sym_fin K ys)
  have HF := Lib.hid rY2.fits
  refine wpIn_rangeFunc_ownG (α := Fin (cuts K ys.length)) rfl (by omega) (gf := 84) (lb := #[.pointer (some ⟨y1.heap.size, 0, none⟩), .pointer (some ⟨y1.heap.size + 1, 0, none⟩)]) rfl trivial (enters_of Try.func84 (by kernel_rfl) rfl)
    (encs := fun x => #[piece (some A) ys.length K x.val]) (Kp := KeepB y1.heap.size (y1.heap.size + 1)) (S := fun zs => zs = List.finRange (cuts K ys.length)) (Sp := fun pre => pre <+: List.finRange (cuts K ys.length)) (N := cuts K ys.length) (w0 := W1)
    (fun l3 J Jx W hW hJ _ hY h0 => chunk1Byte 2 (by omega) l3 _ _ hmm hmx (fun e => by cases e) (by omega) (by omega) (by omega) _ J Jx hJ W hY (box_below bA hW (by omega)) (box_below bB hW (by omega)) h0)
    KeepB.trans (keepB_put (by omega) (by omega)) (Below.refl _ _) (fun _ => rfl)
    (fun (pre : List (Fin (cuts K ys.length))) W => (∃ ad' N' cap' us, Boxed W (w.heap.size + 1 + 1) 32 (.slice ad' N' cap') ∧ Grid W W1.heap.size W.heap.size 3 43 ad' N' cap' us (pre.map fun i => Gen.rowAt K ys i.val) ∧ (∀ g, ad' = some ⟨g, 0, none⟩ → g < W.heap.size) ∧ Solid W ad' ∧
      Boxed W w.heap.size 3 (.int .i64 K) ∧ Row W D.heap.size y1.heap.size .u8 5 (some A) ys.length capY ys ∧ Boxed W y1.heap.size 22 (.slice (some A) ys.length capY) ∧ Boxed W (y1.heap.size + 1) 3 (.int .i64 K) ∧ W1.heap.size ≤ W.heap.size) ∧ Below w.heap.size w W)
    (fun _ _ _ => False)
    (OwnFrom.and (Own.from (own_kc fun s X Y m h => by
      obtain ⟨ad', N', cap', us, i1, i2, i3, i4, i5, i6, i7, i8, i9⟩ := h
      exact ⟨ad', N', cap', us, box_kc i1 m, (i2.kc m).mono m.size, fun g e => Nat.lt_of_lt_of_le (i3 g e) m.size, i4.kc m, box_kc i5 m, i6.kc m, box_kc i7 m, box_kc i8 m, Nat.le_trans i9 m.size⟩) _) (ownFrom_below (Nat.le_refl _) (by omega)))
    (fun _ _ _ _ _ hs _ _ => hs)
    ⟨⟨_, _, _, _, bO, hI0, fun g e => (by obtain rfl := (Addr.mk.inj (Option.some.inj e)).1; omega), sol, bK, rY2, bA, bB, Nat.le_refl _⟩, hb0⟩
    (fun x => { tmps := #[.slice ad n cap, .int .i64 K, undef, .pointer (some ⟨w.heap.size, 0, none⟩), .slice none 0 0, .pointer (some ⟨w.heap.size + 1 + 1, 0, none⟩), piece (some A) ys.length K x.val, .slice (some ⟨w.heap.size + 1, 0, none⟩) 0 0, .int .i64 K, .bool true, .bool false, .bool false, .slice ad n cap, .int .i64 n, .bool (decide ((400 : Int) < n)), .bool (decide ((400 : Int) < n)), undef, .slice ad n cap, .slice (some A) ys.length capY, .int .i64 K, .func (.func 84) #[] #[.pointer (some ⟨y1.heap.size, 0, none⟩), .pointer (some ⟨y1.heap.size + 1, 0, none⟩)], piece (some A) ys.length K x.val, undef, undef, undef, undef, undef, undef, undef], defers := [] }) ?assign ?body ?done ?stop
  case assign =>
    intro l x W K' hK
    unfold piece at *
    gi_wp2
    exact hK
  case body =>
    rintro l pre ⟨x, hx⟩ W ⟨⟨ad', N', cap', us, i1, i2, i3, i4, i5, i6, i7, i8, i9⟩, hBW⟩ hlt
    have hxm := (cuts_lt (show 0 < K by omega)).1 hx
    have hN := i2.len
    rw [List.length_map] at hN
    have hC : cuts K ys.length ≤ ys.length := by
      unfold cuts
      exact Nat.le_of_lt_succ (Nat.div_lt_of_lt_mul (by rw [Nat.mul_succ]; have := Nat.le_mul_of_pos_left ys.length (show 0 < K by omega); omega))
    unfold piece
    dsimp only [Option.map_some]
    have HP := Lib.hid (HRP.out x (by omega))
    have hcut := (i6.sl.drewN 1).cut (i := x * K) (m := min K (ys.length - x * K)) (c := min K (ys.length - x * K)) (by omega) (by omega) (by omega)
    rw [if_neg (by omega)] at hcut
    dsimp only [Option.map_some] at hcut
    gi_wp2
    refine wpIn_region_last 6 (S := fun w' => w'.cell? ⟨w.heap.size, 0, none⟩ = some (.int .i64 K) ∧ w'.cell? ⟨w.heap.size + 1 + 1, 0, none⟩ = some (.slice ad' N' cap')) (by kernel_rfl) (by kernel_rfl) (fun _ _ h => h) (by kernel_rfl) (by kernel_rfl) ?_
    change wpAnyH _ _ _ _ _ _ _ _ (World.drew _)
    have j1 : Boxed W.drew (w.heap.size + 1 + 1) 32 (.slice ad' N' cap') := i1
    have j2 := i2.drewN 1
    have j4 : Solid W.drew ad' := i4
    have j5 : Boxed W.drew w.heap.size 3 (.int .i64 K) := i5
    have j6 := i6.drewN 1
    have j7 : Boxed W.drew y1.heap.size 22 (.slice (some A) ys.length capY) := i7
    have j8 : Boxed W.drew (y1.heap.size + 1) 3 (.int .i64 K) := i8
    have jo : KeepsOthers W W.drew := others_below (Below.refl _ _).drew
    have jb : Below w.heap.size w W.drew := hBW.drew
    have jz : W.drew.heap.size = W.heap.size := rfl
    change Grid W.drew _ _ _ _ _ _ _ _ _ at j2
    change Row W.drew _ _ _ _ _ _ _ _ at j6
    change Sl W.drew _ _ _ _ _ _ _ at hcut
    generalize W.drew = E at *
    have KS := Lib.hid (symbolOf E hcut K (by omega) (by omega))
    have HZ := Lib.hid jz
    rw [HP.out] at KS
    have HH := Lib.hid (show E.cell? ⟨w.heap.size, 0, none⟩ = some (.int .i64 K) ∧ E.cell? ⟨w.heap.size + 1 + 1, 0, none⟩ = some (.slice ad' N' cap') from ⟨j5.cell, j1.cell⟩)
    have HR : Hid (([(⟨x, hx⟩ : Fin (cuts K ys.length))].map fun i => Gen.rowAt K ys i.val) = [Gen.rowAt K ys x]) := rfl
    generalize Gen.rowAt K ys x = row at *
    generalize min K (ys.length - x * K) = Em at *
    generalize A.add (x * K) = Ax at *
    clear hcut i2 i4 i6 hBW
    refine wpAnyH_take (i := 0) (oi := ⟨some _, _, _, _, _, _⟩) (v := ?_) rfl (by kernel_rfl) (by kernel_rfl) (by kernel_rfl) (fun _ _ _ h => h) (Or.inl ⟨by rfl, ?_⟩) HH.out ?_
    rotate_left
    · intro wS hSw
      try dsimp only at hSw
      go_simp
      all_goals (with_reducible rfl)
    simp only [Act.put, List.setIfInBounds_toArray, List.set_cons_zero, List.set_cons_succ]
    refine wpAnyH_take (i := 1) (oi := ⟨some _, _, _, _, _, _⟩) (v := ?_) rfl (by kernel_rfl) (by kernel_rfl) (by kernel_rfl) (fun _ _ _ h => h) (Or.inl ⟨by rfl, ?_⟩) HH.out ?_
    rotate_left
    · intro wS hSw
      try dsimp only at hSw
      go_simp
      all_goals (with_reducible rfl)
    simp only [Act.put, List.setIfInBounds_toArray, List.set_cons_zero, List.set_cons_succ]
    refine wpAnyH_take (i := 2) (oi := ⟨some _, _, _, _, _, _⟩) (v := ?_) rfl (by kernel_rfl) (by kernel_rfl) (by kernel_rfl) (fun _ _ _ h => h) (Or.inl ⟨by rfl, ?_⟩) HH.out ?_
    rotate_left
    · intro wS hSw
      try dsimp only at hSw
      go_simp
      all_goals (with_reducible rfl)
    simp only [Act.put, List.setIfInBounds_toArray, List.set_cons_zero, List.set_cons_succ]
    refine wpAnyH_ready (rs := [3]) (by kernel_rfl) (by simp) ?_
    refine AllReadyH.cons (o := ⟨some _, _, _, _, _, _⟩) rfl (fun Kq hKq => ?_) AllReadyH.nil
    go_simp
    refine KS.out.mono ?_
    rintro e w3 ⟨ad3, n3, cap3, rfl, r3, b3⟩
    have z3 := b3.size
    have hz := HZ.out
    have k1 := box_below j1 b3 (by omega)
    have k2 := (j2.below b3 (.inl (by omega)))
    have k4 := j4.below b3 (Nat.le_refl _)
    have k5 := box_below j5 b3 (by omega)
    have k6 := j6.below b3 (.inl (by omega))
    have k7 := box_below j7 b3 (by omega)
    have k8 := box_below j8 b3 (by omega)
    have ko := jo.trans (others_below b3)
    have kb := jb.trans (b3.mono (by omega))
    have hs : w3.cell? ⟨w.heap.size, 0, none⟩ = some (.int .i64 K) ∧ w3.cell? ⟨w.heap.size + 1 + 1, 0, none⟩ = some (.slice ad' N' cap') := ⟨k5.cell, k1.cell⟩
    clear HH j1 j2 j4 j5 j6 j7 j8 jo jb
    have HH := Lib.hid hs
    refine hKq.out _ _ HH.out (fun _ => ?_)
    clear hKq Kq
    refine wpAnyH_ready (rs := [4]) (by kernel_rfl) (by simp) ?_
    refine AllReadyH.cons (o := ⟨some _, _, _, _, _, _⟩) rfl (fun Kq hKq => ?_) AllReadyH.nil
    go_simp
    have m1 := k1.alloc (.cells #[.slice ad3 n3 cap3] 43)
    have m2 := k2.alloc (.cells #[.slice ad3 n3 cap3] 43)
    have m4 := k4.below ((Below.refl _ _).alloc (Nat.le_refl _) (.cells #[.slice ad3 n3 cap3] 43)) (Nat.le_refl _)
    have m5 := k5.alloc (.cells #[.slice ad3 n3 cap3] 43)
    have m6 := k6.alloc (.cells #[.slice ad3 n3 cap3] 43)
    have m7 := k7.alloc (.cells #[.slice ad3 n3 cap3] 43)
    have m8 := k8.alloc (.cells #[.slice ad3 n3 cap3] 43)
    have mo := ko.trans (KeepsOthers.alloc w3 (.cells #[.slice ad3 n3 cap3] 43))
    have mb := kb.alloc (by omega) (.cells #[.slice ad3 n3 cap3] 43)
    have mr := r3.alloc (.cells #[.slice ad3 n3 cap3] 43)
    have hu : (w3.alloc (.cells #[.slice ad3 n3 cap3] 43)).cell? ⟨w3.heap.size, 0, none⟩ = some (.slice ad3 n3 cap3) := by rw [World.cell?_alloc_new]; rfl
    have hz4 : (w3.alloc (.cells #[.slice ad3 n3 cap3] 43)).heap.size = w3.heap.size + 1 := by simp
    refine hKq.out _ _ ⟨m5.cell, m1.cell⟩ (fun _ => ?_)
    clear hKq Kq HH k1 k2 k4 k5 k6 k7 k8 ko kb r3
    generalize w3.alloc (.cells #[.slice ad3 n3 cap3] 43) = w4 at *
    refine wpAnyH_ready (rs := [5]) (by kernel_rfl) (by simp) ?_
    refine AllReadyH.cons (o := ⟨some _, _, _, _, _, _⟩) rfl (fun Kq hKq => ?_) AllReadyH.nil
    refine step_snoc (m2.out) (u := .slice ad3 n3 cap3) hu rfl Try.underlying32 info_ints rfl (by unfold maxLen; omega) (by omega) rfl _ _ rfl rfl rfl ?_
    intro g5 cap5 w5 o5 p5
    have z5 := p5.size
    rw [hz] at mr
    have q2 := m2.add (OwnInts.of mr) (fun g e => by have := i3 g e; omega) o5 p5 (by omega) (by omega)
    have q1 := p5.box m1 (by omega)
    have q5 := p5.box m5 (by omega)
    have q6 := m6.mv p5.mv (by omega)
    have q7 := p5.box m7 (by omega)
    have q8 := p5.box m8 (by omega)
    have qo := mo.trans (p5.others m4)
    have qb := mb.trans (p5.below (by omega) (by omega))
    have qs := o5.solid (Nat.succ_pos _)
    refine hKq.out _ _ ⟨q5.cell, q1.cell⟩ (fun _ => ?_)
    clear hKq Kq m1 m2 m4 m5 m6 m7 m8 mo mb mr
    obtain ⟨t1, tm⟩ := box_set q1 (.slice (some ⟨g5, 0, none⟩) (N' + 1) cap5)
    have t2 := (q2.1.mv tm (.inr (by omega)))
    have t3 := q2.2
    have t4 := t2.out.solid (Nat.succ_pos _)
    have t5 := box_mv q5 tm (by omega)
    have t6 := q6.mv tm (by omega)
    have t7 := box_mv q7 tm (by omega)
    have t8 := box_mv q8 tm (by omega)
    have to := qo.trans (KeepsOthers.setCell w5 ⟨w.heap.size + 1 + 1, 0, none⟩ (.slice (some ⟨g5, 0, none⟩) (N' + 1) cap5))
    have tb := qb.trans (tm.below (by omega) (by omega))
    have tz : (w5.setCell ⟨w.heap.size + 1 + 1, 0, none⟩ (.slice (some ⟨g5, 0, none⟩) (N' + 1) cap5)).heap.size = w5.heap.size := by simp [World.setCell]
    have hf5 := q1.frozen
    have hc5 := q1.cell
    refine wpAnyH_ready (rs := [6]) (by kernel_rfl) (by simp) ?_
    refine AllReadyH.cons (o := ⟨none, .move (.const (.bool false)), _, _, _, _⟩) rfl (fun Kq hKq => ?_) AllReadyH.nil
    go_simp
    refine hKq.out _ _ ⟨q5.cell, q1.cell⟩ (fun _ => ?_)
    clear hKq Kq
    refine wpAnyH_done (by kernel_rfl) ?_ _
    refine ⟨_, rfl, ?_⟩
    go_simp
    have t2' := t2.lt
    rw [← HR.out, ← List.map_append] at t2'
    exact ⟨to.from _, ⟨t7.trans i7.symm, t8.trans i8.symm⟩, ⟨⟨_, _, _, _, t1, t2', fun g e => (by have := t3 g e; omega), t4, t5, t6, t7, t8, by omega⟩, tb⟩⟩
  case done =>
    rintro Dd zs W hD rfl ⟨⟨ad', N', cap', us, i1, i2, i3, i4, i5, i6, i7, i8, i9⟩, hBW⟩ hK
    have hc := i1.cell
    rw [HSF.out] at i2
    have hfin := (i2.kc (kc_of (grownBy_putObj' W Dd (.deferred none)) (fun r e => by cases e; exact ⟨_, hK, rfl⟩))).net
    have hb9 := hBW.trans (belowK_b (w := w) (Nat.le_refl _) W Dd _ (.deferred none) (by omega) hK rfl rfl)
    clear i2
    gi_wp2
    refine ⟨by simp, .inl ⟨_, _, rfl, run_takeDeferred hK, ?_⟩⟩
    exact ⟨_, results_tmp rfl _ _ _, _, rfl, ⟨_, _, _, _, rfl, (hfin.mono (by omega) (by simp))⟩, hb9⟩
  case stop =>
    rintro Dd c pre W _ _ h _
    exact h.elim
end Go.Proofs.Ytkppkbafoeblhaa.GenI
namespace Go.Proofs.Ytkppkbafoeblhaa.Concat
open Go.ChangeShapes Go.WideShapes Go.ChangeAt Go.RowKit
open Go.Proofs.Ytkppkbafoeblhaa.Seq Go.Proofs.Ytkppkbafoeblhaa.Help

/-- An own slice without elements, with room. -/
theorem row_room (w : World) (e : TypeId) (cur : Array Value) (cap : Nat) (hm : cap ≤ maxLen) (hs : cur.size = cap) :
    Row (w.drew.alloc (.cells cur e)) w.heap.size (w.drew.alloc (.cells cur e)).heap.size .i64 e (some ⟨w.heap.size, 0, none⟩) 0 cap [] :=
  ⟨rfl, Nat.zero_le _, hm, by simp, .inr ⟨w.heap.size, rfl, Nat.le_refl _, by rw [World.size_alloc]; exact Nat.lt_succ_self _, by
    have := World.ownsRow_made (base := w.heap.size) (e := e) (size := 1) w.drew cur cap (Nat.le_refl _) hm (by omega)
    exact this⟩⟩
/-- 'append([]int(nil), make([]int, n)...)', as the walk meets it. -/
theorem wpList_zeros {P : Program} {w : World} {ops : Array Oper} {rest : List Oper} {o : Oper} {a : Act} {Q : Exit → Act → World → Prop} {e t tn : TypeId} {kn kq : IntKind} (ht : P.underlying t = some (.slice e)) (htn : P.underlying tn = some (.int kn)) {z : Value} {bytes : Nat}
    (hinfo : (P.info? e).map (fun i => (i.zero, i.size, i.bytes)) = some (some z, 1, bytes)) (hzs : z.cells.size = 1) {n : Nat} (h0 : 0 < n) (hn : n ≤ maxLen) (hby : n * bytes ≤ 281474976710656)
    (hg : o.guard = none) (p q : Operand) (hop : o.op = Op.call { callee := Callee.builtin Builtin.append, args := #[p, q], argTypes := #[t, tn] }) (hp : a.eval p = .slice none 0 0) (hq : a.eval q = .int kq (n : Int))
    (hK : ∀ cap w', n ≤ cap → cap ≤ maxLen → Row w' w.heap.size w'.heap.size .i64 e (some ⟨w.heap.size, 0, none⟩) 0 cap [] → Below w.heap.size w w' → wpList P ops Q rest (a.put o.dst (.slice (some ⟨w.heap.size, 0, none⟩) n cap)) w') : wpList P ops Q (o :: rest) a w := by
  obtain ⟨i, hi, hz, hs, hb⟩ := info_parts hinfo
  have hn9 : (n : Int) ≤ 9223372036854775807 := by unfold maxLen at hn; omega
  have hrun := Lib.run_append_nil_zeros w t tn o.type e i z kq kn ht htn hi hz n h0 (by omega) hn9 (by rw [hb]; exact hby)
  have hge := grownCap_ge w n 0 e
  have hle := grownCap_le_maxLen w n 0 e hn
  refine Lib.wpList_append_run w hg p q t tn hop _ _ hp hq _ _ hrun (hK _ _ hge hle (row_room w e _ _ hle ?_) ((Below.refl _ _).drew.alloc (Nat.le_refl _) _))
  rw [Array.size_append, size_zeroCells, size_zeroCells, hzs]; omega
set_option maxRecDepth 100000 in
theorem grow (w : World) (k : Nat) (hk : k ≤ 1099511627776) :
    Calls Try.prog 89 #[.slice none 0 0, .int .i64 k] w fun e w' => ∃ ad cap, e = .returned (.slice ad 0 cap) ∧ Row w' w.heap.size w'.heap.size .i64 3 ad 0 cap [] ∧ Below w.heap.size w w' := by
  rcases Nat.eq_zero_or_pos k with h0 | h0
  · subst h0
    go_enter Try.func89, Try.ntmps89
    go_wp2
    go_ret
    exact ⟨_, _, rfl, Row.nil _ _ _ _ _ _, Below.refl _ _⟩
  · have hk0 : ¬ ((k : Int) < 0) := by omega
    go_enter Try.func89, Try.ntmps89
    go_wp2_with (at_builtin; refine wpList_zeros (n := k) Try.underlying43 Try.underlying3 info_int rfl h0 (by unfold maxLen; omega) (by omega) rfl _ _ rfl rfl (by first | rfl | simp) ?_; intro cap4 w4 hc4 hm4 r4 b4)
    unfold maxLen at hm4
    have HR := Lib.hid r4
    clear r4
    go_wp2
    go_ret
    exact ⟨_, _, rfl, HR.out, b4⟩
theorem flat_more {xss : List (List Int)} {xs : List Int} {j : Nat} (h : xss[j]? = some xs) : (xss.take (j + 1)).flatten = (xss.take j).flatten ++ xs := by
  rw [List.take_add_one, h]; simp
theorem flat_len (xss : List (List Int)) : xss.flatten.length = sumLen xss := by unfold sumLen; rw [List.length_flatten]
set_option maxRecDepth 100000 in
theorem concat (w : World) {l h : Nat} {ad : Option Addr} {n cap : Nat} {xss : List (List Int)} (s : Sls w l h ad n cap xss) (hS : sumLen xss ≤ 1099511627776) :
    Calls Try.prog 68 #[.slice ad n cap] w (Gives .i64 3 xss.flatten w) := by
  have hL := Lib.hid s.len
  have hcap := s.le
  have hbig := s.big
  unfold maxLen at hbig
  have HS := Lib.hid hS
  go_enter Try.func68, Try.ntmps68
  go_wp2
  go_loopw [3, 11] (fun z i wr => ∃ j K : Nat, j ≤ n ∧ z = .int .i64 K ∧ i = .int .i64 j ∧ Hid (K = sumLen (xss.take j)) ∧ w = wr) (fun _ i _ => n - (intOf i).toNat)
  case atStart => exact ⟨0, 0, Nat.zero_le _, rfl, rfl, rfl, rfl⟩
  case round =>
    obtain ⟨j, K, hj, rfl, rfl, HK, rfl⟩ := hrel
    have hK9 : K ≤ 1099511627776 := by have := sumLen_le xss j; rw [HK.out]; omega
    by_cases hlt : j < n
    · obtain ⟨a, ad2, n2, cap2, xs, rfl, hx, hc⟩ := s.at_ hlt
      have hK2 : Hid (K + n2 = sumLen (xss.take (j + 1))) := by show _ = _; rw [sumLen_take hx.get, ← HK.out, hx.sl.len]
      have hK8 : K + n2 ≤ 1099511627776 := by have := sumLen_le xss (j + 1); rw [hK2.out]; omega
      have hneg : ¬ ((K : Int) + (n2 : Int) < 0) := by omega
      clear hx HK
      go_wp2
      go_roundw
      case rel => exact ⟨j + 1, K + n2, hlt, by go_num, by go_num, hK2.out, by first | rfl | trivial⟩
      case measure => simp [intOf]; omega
    · obtain rfl : j = n := by omega
      have HF : Hid (K = sumLen xss) := by have := HK.out; rw [List.take_of_length_le (Nat.le_of_eq hL.out)] at this; exact this
      clear HK
      go_wp2_with fail
      go_at_call 89
      refine (grow w K hK9).mono ?_
      rintro e w2 ⟨ad6, cap6, rfl, r6, b6⟩
      go_wp2
      go_loopw [6, 27] (fun z i wr => ∃ (t N cap' : Nat) (ad' : Option Addr), t ≤ j ∧ z = .slice ad' N cap' ∧ i = .int .i64 t ∧ Row wr w.heap.size wr.heap.size .i64 3 ad' N cap' (xss.take t).flatten ∧ Below w.heap.size w wr) (fun _ i _ => j - (intOf i).toNat)
      case atStart => exact ⟨0, 0, cap6, ad6, Nat.zero_le _, rfl, rfl, by simpa using r6, b6⟩
      case round =>
        obtain ⟨t, N, cap', ad', ht, rfl, rfl, hr, hb⟩ := hrel
        have zb := hb.size
        have hN : N = sumLen (xss.take t) := by rw [← hr.len, flat_len]
        by_cases hlt2 : t < j
        · obtain ⟨a, ad2, n2, cap2, xs, rfl, hx, hc⟩ := (s.below hb (.inr (Nat.le_refl _))).at_ hlt2
          have h8 := sumLen_le xss (t + 1)
          rw [sumLen_take hx.get, ← hN, hx.sl.len] at h8
          have HT := Lib.hid (flat_more hx.get)
          have hs2 := hx.sl
          clear hx hN
          go_wp2_with (at_builtin; refine wpList_app hr hs2 Try.underlying43 info_int (by unfold maxLen; omega) (by omega) zb rfl _ _ rfl rfl rfl ?_; intro ad4 cap4 w4 r4 m4)
          have hb4 := hb.trans (m4.below (Nat.le_refl _) zb)
          have HR4 := Lib.hid (HT.out ▸ r4)
          clear r4 hr m4
          go_wp2
          go_roundw
          case rel => exact ⟨t + 1, N + n2, cap4, ad4, hlt2, rfl, by go_num, HR4.out, hb4⟩
          case measure => simp [intOf]; omega
        · obtain rfl : t = j := by omega
          rw [List.take_of_length_le (Nat.le_of_eq hL.out)] at hr
          have HR := Lib.hid hr
          clear hr hN
          go_wp2
          go_ret
          exact ⟨_, _, _, rfl, HR.out, hb⟩
end Go.Proofs.Ytkppkbafoeblhaa.Concat
namespace Go.Proofs.Ytkppkbafoeblhaa.Gen
open Go.RowKit
open Go.Proofs.Ytkppkbafoeblhaa.Seq Go.Proofs.Ytkppkbafoeblhaa.Field Go.Proofs.Ytkppkbafoeblhaa.Vec Go.Proofs.Ytkppkbafoeblhaa.Mat Go.Proofs.Ytkppkbafoeblhaa.Uv Go.Proofs.Ytkppkbafoeblhaa.Rd Go.Proofs.Ytkppkbafoeblhaa.UvR Go.Proofs.Ytkppkbafoeblhaa.Enc
def bytesOf (m : List (List Int)) : List Int := m.flatten.map (· % 256)
theorem bytes_fits (xs : List Int) : ∀ x ∈ xs.map (· % 256), Fits .u8 x := fun x hx => by
  obtain ⟨y, _, rfl⟩ := List.mem_map.1 hx
  exact fits_u8.2 (by omega)
theorem toSym_bytes {d : List Int} {W : Int} (hd : ∀ x ∈ d, Fits .u8 x) : (toSym d W).flatten.all isByte = true := by
  cases h : symOk W d.length
  · rw [toSym_no h]; rfl
  · obtain ⟨⟨h1, h2⟩, h3⟩ := symOk_iff.1 h
    rw [toSym_ok h, sym_flat (by omega), List.all_eq_true]
    intro x hm
    rcases List.mem_append.1 hm with hm | hm
    · rcases List.mem_append.1 hm with hm | hm
      · exact fits_byte.1 (uv_fits _ x hm)
      · exact fits_byte.1 (hd x hm)
    · obtain rfl := List.eq_of_mem_replicate hm; rfl
theorem rdb_mem {xs : List Int} {i most : Int} : ∀ x ∈ (rdb xs i most).1, x ∈ xs := by
  intro x hx
  unfold rdb at hx
  split at hx
  · split at hx
    · exact List.mem_of_mem_drop (List.mem_of_mem_take hx)
    · cases hx
  · cases hx
theorem rdb_400 (xs : List Int) : (rdb xs 0 400).1.length ≤ 400 := by
  unfold rdb
  split
  · split
    · rename_i h
      rw [List.length_take]
      omega
    · exact Nat.zero_le _
  · exact Nat.zero_le _
/-- The program's way. -/
theorem toData_prog (m : List (List Int)) : toData m = bif (rdb (bytesOf m) 0 400).2.2 then bif MatW.sameM (toSym (rdb (bytesOf m) 0 400).1 (colsOf m)) m then ((rdb (bytesOf m) 0 400).1, true) else ([], false) else ([], false) := by
  cases hall : m.flatten.all isByte
  · have h1 : toData m = ([], false) := by unfold toData; rw [hall]; rfl
    rw [h1]
    cases (rdb (bytesOf m) 0 400).2.2
    · rfl
    · simp only [cond_true]
      have h2 : MatW.sameM (toSym (rdb (bytesOf m) 0 400).1 (colsOf m)) m = false := decide_eq_false fun e => by
        have := toSym_bytes (d := (rdb (bytesOf m) 0 400).1) (W := colsOf m) fun x hx => bytes_fits _ x (rdb_mem x hx)
        rw [e, hall] at this
        cases this
      rw [h2]; rfl
  · have hb : bytesOf m = m.flatten := by
      unfold bytesOf
      conv => rhs; rw [← List.map_id m.flatten]
      refine List.map_congr_left fun x hx => ?_
      have := fits_u8.1 (fits_byte.2 (List.all_eq_true.1 hall x hx))
      show x % 256 = x
      omega
    have hf : ∀ x ∈ m.flatten, Fits .u8 x := fun x hx => fits_byte.2 (List.all_eq_true.1 hall x hx)
    rw [hb]
    obtain ⟨⟨a, q, b⟩, hr⟩ : ∃ r : Int × Int × Bool, rdv m.flatten 0 = r := ⟨_, rfl⟩
    cases b
    · rw [rdb_no hr, toData_2 hall (by rw [hr]; rfl)]; rfl
    · obtain ⟨p, a, q, hp, rfl, rfl, g1, g2, g3⟩ := read_ok hf hr
      by_cases h1 : (a : Int) ≤ (m.flatten.length : Int) - q
      · rw [toData_3 hall hr (by omega)]
        by_cases h2 : (a : Int) ≤ 400
        · rw [rdb_yes hr h2 h1]; rfl
        · rw [rdb_big hr (fun h => h2 h.1)]
          have h3 : toSym ((m.flatten.drop q).take a) (colsOf m) = [] := toSym_no (by
            rw [← Bool.not_eq_true]
            intro h
            have := (symOk_iff.1 h).2
            rw [List.length_take, List.length_drop] at this
            omega)
          have h4 : MatW.sameM (toSym ((m.flatten.drop q).take a) (colsOf m)) m = false := decide_eq_false fun e => by
            rw [h3] at e
            subst e
            simp at g3
            omega
          rw [h4]; rfl
      · rw [rdb_big hr (fun h => h1 h.2), toData_2 hall (by rw [hr]; simp only [Bool.true_and]; exact decide_eq_false h1)]; rfl
end Go.Proofs.Ytkppkbafoeblhaa.Gen
namespace Go.Proofs.Ytkppkbafoeblhaa.GenI
open Go.ChangeShapes Go.WideShapes Go.ChangeAt Go.RowKit
open Go.Proofs.Ytkppkbafoeblhaa.Seq Go.Proofs.Ytkppkbafoeblhaa.Help Go.Proofs.Ytkppkbafoeblhaa.Field Go.Proofs.Ytkppkbafoeblhaa.FieldW Go.Proofs.Ytkppkbafoeblhaa.Vec Go.Proofs.Ytkppkbafoeblhaa.Mat Go.Proofs.Ytkppkbafoeblhaa.MatW Go.Proofs.Ytkppkbafoeblhaa.Shape Go.Proofs.Ytkppkbafoeblhaa.Uv Go.Proofs.Ytkppkbafoeblhaa.Enc Go.Proofs.Ytkppkbafoeblhaa.EncW Go.Proofs.Ytkppkbafoeblhaa.Gen Go.Proofs.Ytkppkbafoeblhaa.GenW Go.Proofs.Ytkppkbafoeblhaa.Deep
set_option maxRecDepth 100000 in
set_option maxHeartbeats 3200000 in
theorem toData : ToDataOp := fun w l h v m s0 f => by
  obtain ⟨ad, n, cap, rfl, s⟩ := id s0
  have hcap := s.le
  have hbig := s.big
  unfold maxLen at hbig
  have hn : n ≤ 1048576 := by rw [← s.len]; exact Small.len f
  have hcs0 := cols_small f
  have hS : sumLen m ≤ 1099511627776 := Small.sum f
  have HSh := Lib.hid (show MatOps.Short m from fun xs hx => by have := Small.each f xs hx; omega)
  have hfl : m.flatten.length ≤ 1099511627776 := by rw [Concat.flat_len]; exact hS
  have HP := Lib.hid (toData_prog m)
  have HS := Lib.hid s
  have HBF := Lib.hid (bytes_fits m.flatten)
  have hb0 := below_box w (.cells #[] 5)
  have hz0 : (w.alloc (.cells #[] 5)).heap.size = w.heap.size + 1 := by simp
  have KC := Lib.hid (Concat.concat (w.alloc (.cells #[] 5)) (s.below hb0 (.inr (Nat.le_refl _))) hS)
  rw [HP.out]
  unfold bytesOf
  generalize hfm : m.flatten = xs at *
  have h400 := rdb_400 (xs.map (· % 256))
  obtain ⟨⟨d, p, b⟩, hrd⟩ : ∃ r, rdb (xs.map (· % 256)) 0 400 = r := ⟨_, rfl⟩
  rw [hrd] at h400 ⊢
  have HRD := Lib.hid hrd
  obtain ⟨R, hR⟩ : ∃ R, R = bif (d, p, b).2.2 then bif MatW.sameM (Gen.toSym (d, p, b).1 (colsOf m)) m then ((d, p, b).1, true) else ([], false) else ([], false) := ⟨_, rfl⟩
  rw [← hR]
  dsimp only at hR h400
  have HRR := Lib.hid hR
  clear hR hrd
  clear s s0 f hS hfm HP
  go_enter Try.func25, Try.ntmps25
  go_wp2_with fail
  go_at_call 68
  generalize w.alloc (.cells #[] 5) = D at *
  refine KC.out.mono ?_
  rintro e w1 ⟨adX, N, capX, rfl, rX, bX⟩
  have zX := bX.size
  have hb1 := hb0.trans (bX.mono (by omega))
  have hNl := rX.len
  subst hNl
  have HX := Lib.hid rX.sl
  have hXle := rX.le
  have hXbig := rX.big
  unfold maxLen at hXbig
  clear rX bX hb0
  go_wp2
  go_loopw [4, 14] (fun o i wr => ∃ (j : Nat) (ad' : Option Addr) (cap' : Nat), j ≤ xs.length ∧ i = .int .i64 j ∧ o = .slice ad' j cap' ∧ Row wr w1.heap.size wr.heap.size .u8 5 ad' j cap' ((xs.take j).map (· % 256)) ∧ Below w.heap.size w wr ∧ Below w1.heap.size w1 wr) (fun _ i _ => xs.length - (intOf i).toNat)
  case atStart => exact ⟨0, _, _, Nat.zero_le _, rfl, rfl, Row.nil _ _ _ _ _ _, hb1, Below.refl _ _⟩
  case round =>
    obtain ⟨j, ad', cap', hj, rfl, rfl, hr, hb, hbx⟩ := hrel
    have zb := hb.size
    have zbx := hbx.size
    by_cases hlt : j < xs.length
    · obtain ⟨a, x, rfl, hx, hc⟩ := (HX.out.below hbx (.inr (Nat.le_refl _))).at_ hlt
      have hwr : IntKind.u8.wrap x = x % 256 := by simp [IntKind.wrap, IntKind.signed, IntKind.bits]
      have HM := Lib.hid (show (xs.take (j + 1)).map (· % 256) = (xs.take j).map (· % 256) ++ [x % 256] by rw [take_more hx.get]; simp)
      have hxf := fits_i64.1 hx.fits
      clear hx
      go_wp2_with (at_builtin; refine wpList_app (hr.alloc _) (one _ .u8 _ (x % 256) (fits_u8.2 (by omega))) Try.underlying22 info_uint8 (by unfold maxLen; omega) (by omega) (by simp; omega) rfl _ _ rfl rfl rfl ?_; intro ad2 cap2 w2 hr2 hm2)
      have hb2 := (hb.alloc (by omega) (.cells #[.int .u8 (x % 256)] 5)).trans (hm2.below (by omega) (by simp; omega))
      have hbx2 := (hbx.alloc (by omega) (.cells #[.int .u8 (x % 256)] 5)).trans (hm2.below (by omega) (by simp; omega))
      rw [← HM.out] at hr2
      go_roundw
      case rel => exact ⟨j + 1, _, _, by omega, by go_num, rfl, hr2, hb2, hbx2⟩
      case measure => simp [intOf]; omega
    · obtain rfl : j = xs.length := by omega
      rw [List.take_length] at hr
      have KR := Lib.hid (impl_rdb wr hr.sl (by omega) 0 (by omega) (by omega) 400 (by omega) (by omega))
      rw [HRD.out] at KR
      dsimp only at KR
      clear hr
      go_wp2_with fail
      go_at_call 69
      refine KR.out.mono ?_
      rintro e w2 ⟨ad2, n2, cap2, rfl, r2, b2⟩
      have z2 := b2.size
      have hb2 := Lib.hid (hb.trans (b2.mono zb))
      have hw0 := hb2.out.size
      have hwr := zb
      cases b
      · clear r2 b2
        go_wp2
        go_ret2
        rw [HRR.out]
        exact ⟨_, rfl, row_own (Row.nil _ _ _ .u8 5 _), hb2.out.alloc hw0 _⟩
      have s2 := HS.out.below hb2.out (.inr (Nat.le_refl _))
      have K1 := Lib.hid (MatI.cols_is w2 s2)
      have hcs := hcs0
      have K2 := Lib.hid (toSym w2 ⟨_, _, _, rfl, r2.sl⟩ (show d.length ≤ 1048576 by omega) (colsOf m) (by omega) (by omega))
      have HR2 := Lib.hid r2
      have HT1 := Lib.hid (fun (r : List Int) => toSym_each (d := d) (W := (colsOf m : Int)) r)
      have ht2 := toSym_len (d := d) (W := (colsOf m : Int))
      generalize hC : colsOf m = C at *
      generalize Gen.toSym d (C : Int) = T at *
      clear r2 b2 s2 hC
      go_wp2_with fail
      go_at_call 61
      refine K1.out.mono ?_
      rintro e w' ⟨rfl, rfl⟩
      go_wp2_with fail
      go_at_call 23
      refine K2.out.mono ?_
      rintro e w3 ⟨u3, rfl, ⟨ad3, n3, cap3, us3, rfl, g3⟩, b3⟩
      have z3 := b3.size
      have hb3 := Lib.hid (hb2.out.trans (b3.mono hw0))
      have hl3 := g3.len
      have K3 := Lib.hid (MatI.eqM w3 g3.sls (by omega) (fun r hr => by have := HT1.out r hr; omega) (HS.out.below hb3.out (.inr (Nat.le_refl _))) (by omega) HSh.out)
      have HR3 := Lib.hid ((HR2.out.below b3 (.inr (Nat.le_refl _))).mono z3)
      clear g3 b3
      generalize MatW.sameM T m = b at *
      go_wp2_with fail
      go_at_call 70
      refine K3.out.mono ?_
      rintro e w4 ⟨rfl, b4⟩
      have hb4 := Lib.hid (hb3.out.trans (b4.mono (by omega)))
      have HR4 := Lib.hid ((HR3.out.below b4 (.inr (Nat.le_refl _))).mono b4.size)
      have hw4 := hb4.out.size
      clear b4
      cases b
      · go_wp2
        go_ret2
        rw [HRR.out]
        exact ⟨_, rfl, row_own (Row.nil _ _ _ .u8 5 _), hb4.out.alloc hw4 _⟩
      · go_wp2
        go_ret2
        rw [HRR.out]
        exact ⟨_, rfl, row_own (HR4.out.lo hwr), hb4.out⟩
end Go.Proofs.Ytkppkbafoeblhaa.GenI
namespace Go.Proofs.Ytkppkbafoeblhaa.Gen
open Go.RowKit
open Go.Proofs.Ytkppkbafoeblhaa.Seq Go.Proofs.Ytkppkbafoeblhaa.Field Go.Proofs.Ytkppkbafoeblhaa.Vec Go.Proofs.Ytkppkbafoeblhaa.Mat
theorem chain_ids {gs : List G2} {j : Nat} (h : chain gs j = true) : ∀ i, i < j → (gs.getD i (0, [])).1 = (gs.getD 0 (0, [])).1 + (i : Int)
  | 0, _ => by simp
  | i + 1, hi => by
    have h1 := (chain_iff.1 h (i + 1) hi).2.resolve_left (Nat.succ_ne_zero _)
    have h2 := chain_ids h i (by omega)
    rw [Nat.add_sub_cancel] at h1
    rw [h1, h2]
    omega
theorem chain_step {gs : List G2} {j : Nat} {g g0 : G2} (hg : gs[j]? = some g) (h0 : gs[0]? = some g0) (h : chain gs j = true) : chain gs (j + 1) = (isGen g && decide (g.1 = g0.1 + (j : Int))) := by
  have e1 : gs.getD j (0, []) = g := by rw [List.getD_eq_getElem?_getD, hg]; rfl
  have e0 : gs.getD 0 (0, []) = g0 := by rw [List.getD_eq_getElem?_getD, h0]; rfl
  rw [chain_more, h, e1, Bool.true_and]
  congr 1
  by_cases hj : j = 0
  · subst hj
    obtain rfl := Option.some.inj (hg.symm.trans h0)
    simp
  · have h2 := chain_ids h (j - 1) (by omega)
    rw [h2, e0]
    rw [decide_eq_false hj, Bool.false_or]
    apply decide_eq_decide.2
    omega
end Go.Proofs.Ytkppkbafoeblhaa.Gen
namespace Go.Proofs.Ytkppkbafoeblhaa.GenI
open Go.ChangeShapes Go.WideShapes Go.ChangeAt Go.RowKit
open Go.Proofs.Ytkppkbafoeblhaa.Drawn Go.Proofs.Ytkppkbafoeblhaa.Seq Go.Proofs.Ytkppkbafoeblhaa.Help Go.Proofs.Ytkppkbafoeblhaa.Field Go.Proofs.Ytkppkbafoeblhaa.FieldW Go.Proofs.Ytkppkbafoeblhaa.Vec Go.Proofs.Ytkppkbafoeblhaa.Mat Go.Proofs.Ytkppkbafoeblhaa.MatW Go.Proofs.Ytkppkbafoeblhaa.RedW Go.Proofs.Ytkppkbafoeblhaa.Shape Go.Proofs.Ytkppkbafoeblhaa.Gen Go.Proofs.Ytkppkbafoeblhaa.GenW Go.Proofs.Ytkppkbafoeblhaa.Deep

theorem small_in {gs : List G2} (h : Small (gs.flatMap (·.2))) {g : G2} (hg : g ∈ gs) : Small g.2 := by
  have hm : ∀ x ∈ g.2, x ∈ gs.flatMap (·.2) := fun x hx => List.mem_flatMap.2 ⟨g, hg, hx⟩
  refine ⟨?_, fun x hx => h.each x (hm x hx)⟩
  obtain ⟨j, hj⟩ := List.mem_iff_getElem?.1 hg
  have h1 := flat_le (gs := gs) (j + 1)
  rw [Gen.flat_take hj, List.length_append] at h1
  have := h.len
  omega
/-- The headers of rows, in their order. -/
theorem heads {w : World} {l h n cap : Nat} {A : Addr} {xss : List (List Int)} (s : Sls w l h (some A) n cap xss) : ∃ us : List Value, us.length = n ∧ (∀ (i : Nat) (u : Value), us[i]? = some u → w.cell? (A.add i) = some u ∧ u.oneCell' = true) ∧ ∀ (i : Nat) (u : Value) (xs : List Int), us[i]? = some u → xss[i]? = some xs → IsInts w l h u xs := by
  obtain ⟨us, h1, h2⟩ := build n (fun i u => w.cell? (A.add i) = some u ∧ ∀ xs, xss[i]? = some xs → IsInts w l h u xs) fun j hj => by
    obtain ⟨a, u, e, _, _, hc, hi⟩ := s.cells j _ (List.getElem?_eq_getElem (by rw [s.len]; exact hj))
    obtain rfl := Option.some.inj e
    exact ⟨u, hc, fun xs hx => by obtain rfl := Option.some.inj ((List.getElem?_eq_getElem (by rw [s.len]; exact hj)).symm.trans hx); exact hi⟩
  refine ⟨us, h1, fun i u hu => ⟨(h2 i u hu).1, ?_⟩, fun i u xs hu hx => (h2 i u hu).2 xs hx⟩
  have hi : i < xss.length := by rw [s.len, ← h1]; exact (List.getElem?_eq_some_iff.1 hu).1
  exact ((h2 i u hu).2 _ (List.getElem?_eq_getElem hi)).one
theorem isInts_below {w w' : World} {l h B : Nat} {u : Value} {xs : List Int} (s : IsInts w l h u xs) (b : Below B w w') (hB : h ≤ B ∨ w.heap.size ≤ B) : IsInts w' l h u xs := by
  obtain ⟨_, _, _, rfl, s⟩ := s; exact ⟨_, _, _, rfl, s.below b hB⟩
theorem isInts_mono {w : World} {l h l' h' : Nat} {u : Value} {xs : List Int} (s : IsInts w l h u xs) (h1 : l' ≤ l) (h2 : h ≤ h') : IsInts w l' h' u xs := by
  obtain ⟨_, _, _, rfl, s⟩ := s; exact ⟨_, _, _, rfl, s.mono h1 h2⟩
theorem isInts_lt {w : World} {l h B : Nat} {u : Value} {xs : List Int} (s : IsInts w l h u xs) (hB : w.heap.size ≤ B) : IsInts w l B u xs := by
  obtain ⟨_, _, _, rfl, s⟩ := s; exact ⟨_, _, _, rfl, s.lt hB⟩
/-- Rows that lie elsewhere, their headers in a slice of the call's own. -/
theorem heads_sls {w w' : World} {l h b hh n cap : Nat} {e : TypeId} {ad : Option Addr} {us : List Value} {xss : List (List Int)} (r : RowV w' b hh e ad n cap us) (hl : xss.length = n) (hi : ∀ (i : Nat) (u : Value) (xs : List Int), us[i]? = some u → xss[i]? = some xs → IsInts w l h u xs) (m : Below w.heap.size w w') : Sls w' 0 w'.heap.size ad n cap xss :=
  ⟨hl, r.le, r.big, r.sl.nil, fun j xs hx => by
    have hj : j < us.length := by rw [r.len, ← hl]; exact (List.getElem?_eq_some_iff.1 hx).1
    have hu := List.getElem?_eq_getElem hj
    obtain ⟨a, e, _, b2, hc⟩ := r.lt.sl.cells j _ hu
    exact ⟨a, _, e, Nat.zero_le _, b2, hc, isInts_mono (isInts_below (isInts_lt (hi j _ xs hu hx) (Nat.le_refl _)) m (.inl (Nat.le_refl _))) (Nat.zero_le _) m.size⟩⟩

set_option maxRecDepth 100000 in
set_option maxHeartbeats 6400000 in
theorem join : JoinOp := fun w l h v gs s0 f => by
  obtain ⟨ad, n, cap, rfl, s⟩ := rd_gens s0
  have hn : n ≤ 1048576 := by rw [← s.len]; exact len_fit f
  have hf := flat_fit f
  have hL := Lib.hid s.len
  have hcap := s.le
  have hbig := s.big
  unfold maxLen at hbig
  have HS := Lib.hid s
  have HF := Lib.hid hf
  obtain ⟨R, hR⟩ : ∃ R, R = Gen.join gs := ⟨_, rfl⟩
  rw [← hR]
  have HR := Lib.hid hR
  clear s hR hf s0 f
  go_enter Try.func17, Try.ntmps17
  have hb0 : Below w.heap.size w (w.alloc (.cells #[] 43)) := (Below.refl _ _).alloc (Nat.le_refl _) _
  go_wp2
  go_loopw [4, 10] (fun o i wr => ∃ (j N : Nat) (ad' : Option Addr) (cap' : Nat) (us : List Value), j ≤ n ∧ N ≤ 1048576 ∧ i = .int .i64 j ∧ o = .slice ad' N cap' ∧ RowV wr w.heap.size wr.heap.size 43 ad' N cap' us ∧ Below w.heap.size w wr ∧
    Hid (chain gs j = true ∧ ((gs.take j).flatMap (·.2)).length = N ∧ ∀ (i : Nat) (u : Value) (xs : List Int), us[i]? = some u → ((gs.take j).flatMap (·.2))[i]? = some xs → IsInts w l h u xs)) (fun _ i _ => n - (intOf i).toNat)
  case atStart => exact ⟨0, 0, _, _, [], Nat.zero_le _, Nat.zero_le _, rfl, rfl, RowV.nil _ _ _ _ _, hb0, rfl, rfl, by simp⟩
  case round =>
    obtain ⟨j, N, ad', cap', us, hj, hN, rfl, rfl, hr, hb, HA⟩ := hrel
    have zb := hb.size
    by_cases hlt : j < n
    · obtain ⟨a1, ad3, n3, cap3, g, e1, hg, wc0, wc1, hg1, ws3⟩ := HS.out.at_ hlt
      obtain ⟨a0, ad0, n0, cap0, g0, e0, hg0, wd0, -, hb0', -⟩ := HS.out.at_ (j := 0) (by omega)
      subst e1
      obtain rfl := Option.some.inj e0
      clear e0
      rw [Nat.zero_mul, add_0] at wd0
      have hc0 := (hb.cell (World.block_lt_of_cell? _ _ wc0)).trans wc0
      have hc1 := (hb.cell (World.block_lt_of_cell? _ _ wc1)).trans wc1
      have hd0 := (hb.cell (World.block_lt_of_cell? _ _ wd0)).trans wd0
      have hs3 := ws3.below hb (.inr (Nat.le_refl _))
      have HWS := Lib.hid ws3
      have HG := Lib.hid hg
      have HCH := Lib.hid (chain_step hg hg0 HA.out.1)
      have HFG := Lib.hid (show Small g.2 from small_in HF.out (List.mem_of_getElem? hg))
      have hs3l := hs3.len
      have BG := Blk.new wr (.int .i64 g.1) (.slice ad3 n3 cap3) 34
      have bD := below_box wr (.cells #[.int .i64 g.1, .slice ad3 n3 cap3] 34)
      have zD : (wr.alloc (.cells #[.int .i64 g.1, .slice ad3 n3 cap3] 34)).heap.size = wr.heap.size + 1 := by simp
      clear wc0 wc1 wd0 ws3
      cases hv : Gen.isGen g
      · have HE := Lib.hid (join_bad (gs := gs) (j := j + 1) (by rw [HCH.out, hv]; rfl) (by rw [hL.out]; omega))
        clear hg hg0
        go_wp2
        refine wp_region_held (S := fun w' => w'.cell? ⟨wr.heap.size, 0, none⟩ = some (.int .i64 g.1) ∧ w'.cell? ⟨wr.heap.size, 1, none⟩ = some (.slice ad3 n3 cap3) ∧ w'.cell? a1 = some (.int .i64 g0.1)) (by kernel_rfl) ?_
        change wpAnyH _ _ _ _ _ _ _ _ (World.drew _)
        generalize wr.alloc (.cells #[.int .i64 g.1, .slice ad3 n3 cap3] 34) = D0 at *
        replace BG : Blk D0.drew wr.heap.size 34 (.int .i64 g.1) (.slice ad3 n3 cap3) := BG.drewN 1
        replace bD : Below wr.heap.size wr D0.drew := bD.drew
        replace zD : D0.drew.heap.size = wr.heap.size + 1 := zD
        generalize D0.drew = D at *
        have hdD : D.cell? a1 = some (.int .i64 g0.1) := (bD.cell (World.block_lt_of_cell? _ _ hd0)).trans hd0
        have HH := Lib.hid (show D.cell? ⟨wr.heap.size, 0, none⟩ = some (.int .i64 g.1) ∧ D.cell? ⟨wr.heap.size, 1, none⟩ = some (.slice ad3 n3 cap3) ∧ D.cell? a1 = some (.int .i64 g0.1) from ⟨BG.c0, BG.c1, hdD⟩)
        have KG := Lib.hid (GenI.isGen D (g := g) ⟨_, rfl, hg1, _, _, _, rfl, hs3.below bD (.inr (Nat.le_refl _))⟩ HFG.out)
        rw [hv] at KG
        refine wpAnyH_take (i := 0) (oi := ⟨some _, _, _, _, _, _⟩) (v := ?_) rfl (by kernel_rfl) (by kernel_rfl) (by kernel_rfl) (fun _ _ _ h => h) (Or.inl ⟨by rfl, ?_⟩) HH.out ?_
        rotate_left
        · intro wS hSw
          try dsimp only at hSw
          go_simp
          all_goals (with_reducible rfl)
        simp only [Act.put, List.setIfInBounds_toArray, List.set_cons_zero, List.set_cons_succ]
        refine wpAnyH_ready (rs := [1]) (by kernel_rfl) (by simp) ?_
        refine AllReadyH.cons (o := ⟨some _, _, _, _, _, _⟩) rfl (fun Kq hKq => ?_) AllReadyH.nil
        go_simp
        refine KG.out.mono ?_
        rintro e y1 ⟨rfl, bl⟩
        have BY := BG.below bl (by omega)
        have hdY : y1.cell? a1 = some (.int .i64 g0.1) := (bl.cell (World.block_lt_of_cell? _ _ hdD)).trans hdD
        have hbY := Lib.hid (hb.trans ((bD.trans (bl.mono (by omega))).mono zb))
        have hbW := Lib.hid (bD.trans (bl.mono (by omega)))
        have zY := bl.size
        clear HH bl BG hdD bD
        have HH := Lib.hid (show y1.cell? ⟨wr.heap.size, 0, none⟩ = some (.int .i64 g.1) ∧ y1.cell? ⟨wr.heap.size, 1, none⟩ = some (.slice ad3 n3 cap3) ∧ y1.cell? a1 = some (.int .i64 g0.1) from ⟨BY.c0, BY.c1, hdY⟩)
        refine hKq.out _ _ HH.out (fun _ => ?_)
        clear hKq Kq
        refine wpAnyH_take (i := 2) (oi := ⟨some _, _, _, _, _, _⟩) (v := ?_) rfl (by kernel_rfl) (by kernel_rfl) (by kernel_rfl) (fun _ _ _ h => h) (Or.inl ⟨by rfl, ?_⟩) HH.out ?_
        rotate_left
        · intro wS hSw
          try dsimp only at hSw
          go_simp
          all_goals (with_reducible rfl)
        simp only [Act.put, List.setIfInBounds_toArray, List.set_cons_zero, List.set_cons_succ]
        refine wpAnyH_take (i := 3) (oi := ⟨some _, _, _, _, _, _⟩) (v := ?_) rfl (by kernel_rfl) (by kernel_rfl) (by kernel_rfl) (fun _ _ _ h => h) (Or.inl ⟨by rfl, ?_⟩) HH.out ?_
        rotate_left
        · intro wS hSw
          try dsimp only at hSw
          go_simp
          all_goals (with_reducible rfl)
        simp only [Act.put, List.setIfInBounds_toArray, List.set_cons_zero, List.set_cons_succ]
        refine wpAnyH_take (i := 4) (oi := ⟨some _, _, _, _, _, _⟩) (v := undef) rfl (by kernel_rfl) (by kernel_rfl) (by kernel_rfl) (fun _ _ _ h => h) (Or.inr ⟨by rfl, rfl⟩) HH.out ?_
        simp only [Act.put, List.setIfInBounds_toArray, List.set_cons_zero, List.set_cons_succ]
        refine wpAnyH_take (i := 5) (oi := ⟨some _, _, _, _, _, _⟩) (v := undef) rfl (by kernel_rfl) (by kernel_rfl) (by kernel_rfl) (fun _ _ _ h => h) (Or.inr ⟨by rfl, rfl⟩) HH.out ?_
        simp only [Act.put, List.setIfInBounds_toArray, List.set_cons_zero, List.set_cons_succ]
        refine wpAnyH_take (i := 6) (oi := ⟨some _, _, _, _, _, _⟩) (v := undef) rfl (by kernel_rfl) (by kernel_rfl) (by kernel_rfl) (fun _ _ _ h => h) (Or.inr ⟨by rfl, rfl⟩) HH.out ?_
        simp only [Act.put, List.setIfInBounds_toArray, List.set_cons_zero, List.set_cons_succ]
        refine wpAnyH_take (i := 7) (oi := ⟨some _, _, _, _, _, _⟩) (v := undef) rfl (by kernel_rfl) (by kernel_rfl) (by kernel_rfl) (fun _ _ _ h => h) (Or.inr ⟨by rfl, rfl⟩) HH.out ?_
        simp only [Act.put, List.setIfInBounds_toArray, List.set_cons_zero, List.set_cons_succ]
        refine wpAnyH_take (i := 8) (oi := ⟨some _, _, _, _, _, _⟩) (v := undef) rfl (by kernel_rfl) (by kernel_rfl) (by kernel_rfl) (fun _ _ _ h => h) (Or.inr ⟨by rfl, rfl⟩) HH.out ?_
        simp only [Act.put, List.setIfInBounds_toArray, List.set_cons_zero, List.set_cons_succ]
        refine wpAnyH_take (i := 9) (oi := ⟨some _, _, _, _, _, _⟩) (v := undef) rfl (by kernel_rfl) (by kernel_rfl) (by kernel_rfl) (fun _ _ _ h => h) (Or.inr ⟨by rfl, rfl⟩) HH.out ?_
        simp only [Act.put, List.setIfInBounds_toArray, List.set_cons_zero, List.set_cons_succ]
        refine wpAnyH_take (i := 10) (oi := ⟨some _, _, _, _, _, _⟩) (v := undef) rfl (by kernel_rfl) (by kernel_rfl) (by kernel_rfl) (fun _ _ _ h => h) (Or.inr ⟨by rfl, rfl⟩) HH.out ?_
        simp only [Act.put, List.setIfInBounds_toArray, List.set_cons_zero, List.set_cons_succ]
        refine wpAnyH_take (i := 11) (oi := ⟨some _, _, _, _, _, _⟩) (v := undef) rfl (by kernel_rfl) (by kernel_rfl) (by kernel_rfl) (fun _ _ _ h => h) (Or.inr ⟨by rfl, rfl⟩) HH.out ?_
        simp only [Act.put, List.setIfInBounds_toArray, List.set_cons_zero, List.set_cons_succ]
        refine wpAnyH_take (i := 12) (oi := ⟨some _, _, _, _, _, _⟩) (v := undef) rfl (by kernel_rfl) (by kernel_rfl) (by kernel_rfl) (fun _ _ _ h => h) (Or.inr ⟨by rfl, rfl⟩) HH.out ?_
        simp only [Act.put, List.setIfInBounds_toArray, List.set_cons_zero, List.set_cons_succ]
        refine wpAnyH_take (i := 13) (oi := ⟨some _, _, _, _, _, _⟩) (v := ?_) rfl (by kernel_rfl) (by kernel_rfl) (by kernel_rfl) (fun _ _ _ h => h) (Or.inl ⟨by rfl, ?_⟩) HH.out ?_
        rotate_left
        · intro wS hSw
          try dsimp only at hSw
          go_simp
          all_goals (with_reducible rfl)
        simp only [Act.put, List.setIfInBounds_toArray, List.set_cons_zero, List.set_cons_succ]
        refine wpAnyH_done (by kernel_rfl) ?_ _
        clear HH
        go_wp2
        go_ret2
        rw [HR.out, HE.out]
        exact ⟨_, rfl, row_own (Row.nil _ _ _ .u8 5 _), hbY.out.alloc hbY.out.size _⟩
      · obtain ⟨⟨v0, v1'⟩, v2, v3, v4, v5⟩ := isGen_in hv
        have hb0'' : 0 ≤ g0.1 ∧ g0.1 ≤ 1000000000000 := by
          by_cases h0 : j = 0
          · subst h0
            obtain rfl := Option.some.inj (hg.symm.trans hg0)
            exact ⟨v0, v1'⟩
          · have h1 := (chain_iff.1 HA.out.1 0 (by omega)).1
            rw [show gs.getD 0 (0, []) = g0 by rw [List.getD_eq_getElem?_getD, hg0]; rfl] at h1
            exact (isGen_in h1).1
        have hn0 : 0 < n := by omega
        have hw3 : IntKind.i64.wrap (g0.1 + (j : Int)) = g0.1 + (j : Int) := by rw [IntKind.wrap_i64]; omega
        by_cases hid : g.1 = g0.1 + (j : Int)
        case neg =>
          have hidb : (g.1 != g0.1 + (j : Int)) = true := by simpa using hid
          have HE := Lib.hid (join_bad (gs := gs) (j := j + 1) (by rw [HCH.out, hv, decide_eq_false hid]; rfl) (by rw [hL.out]; omega))
          clear hg hg0
          go_wp2
          refine wp_region_held (S := fun w' => w'.cell? ⟨wr.heap.size, 0, none⟩ = some (.int .i64 g.1) ∧ w'.cell? ⟨wr.heap.size, 1, none⟩ = some (.slice ad3 n3 cap3) ∧ w'.cell? a1 = some (.int .i64 g0.1)) (by kernel_rfl) ?_
          change wpAnyH _ _ _ _ _ _ _ _ (World.drew _)
          generalize wr.alloc (.cells #[.int .i64 g.1, .slice ad3 n3 cap3] 34) = D0 at *
          replace BG : Blk D0.drew wr.heap.size 34 (.int .i64 g.1) (.slice ad3 n3 cap3) := BG.drewN 1
          replace bD : Below wr.heap.size wr D0.drew := bD.drew
          replace zD : D0.drew.heap.size = wr.heap.size + 1 := zD
          generalize D0.drew = D at *
          have hdD : D.cell? a1 = some (.int .i64 g0.1) := (bD.cell (World.block_lt_of_cell? _ _ hd0)).trans hd0
          have HH := Lib.hid (show D.cell? ⟨wr.heap.size, 0, none⟩ = some (.int .i64 g.1) ∧ D.cell? ⟨wr.heap.size, 1, none⟩ = some (.slice ad3 n3 cap3) ∧ D.cell? a1 = some (.int .i64 g0.1) from ⟨BG.c0, BG.c1, hdD⟩)
          have KG := Lib.hid (GenI.isGen D (g := g) ⟨_, rfl, hg1, _, _, _, rfl, hs3.below bD (.inr (Nat.le_refl _))⟩ HFG.out)
          rw [hv] at KG
          refine wpAnyH_take (i := 0) (oi := ⟨some _, _, _, _, _, _⟩) (v := ?_) rfl (by kernel_rfl) (by kernel_rfl) (by kernel_rfl) (fun _ _ _ h => h) (Or.inl ⟨by rfl, ?_⟩) HH.out ?_
          rotate_left
          · intro wS hSw
            try dsimp only at hSw
            go_simp
            all_goals (with_reducible rfl)
          simp only [Act.put, List.setIfInBounds_toArray, List.set_cons_zero, List.set_cons_succ]
          refine wpAnyH_ready (rs := [1]) (by kernel_rfl) (by simp) ?_
          refine AllReadyH.cons (o := ⟨some _, _, _, _, _, _⟩) rfl (fun Kq hKq => ?_) AllReadyH.nil
          go_simp
          refine KG.out.mono ?_
          rintro e y1 ⟨rfl, bl⟩
          have BY := BG.below bl (by omega)
          have hdY : y1.cell? a1 = some (.int .i64 g0.1) := (bl.cell (World.block_lt_of_cell? _ _ hdD)).trans hdD
          have hbY := Lib.hid (hb.trans ((bD.trans (bl.mono (by omega))).mono zb))
          have hbW := Lib.hid (bD.trans (bl.mono (by omega)))
          have zY := bl.size
          clear HH bl BG hdD bD
          have HH := Lib.hid (show y1.cell? ⟨wr.heap.size, 0, none⟩ = some (.int .i64 g.1) ∧ y1.cell? ⟨wr.heap.size, 1, none⟩ = some (.slice ad3 n3 cap3) ∧ y1.cell? a1 = some (.int .i64 g0.1) from ⟨BY.c0, BY.c1, hdY⟩)
          refine hKq.out _ _ HH.out (fun _ => ?_)
          clear hKq Kq
          refine wpAnyH_take (i := 2) (oi := ⟨some _, _, _, _, _, _⟩) (v := ?_) rfl (by kernel_rfl) (by kernel_rfl) (by kernel_rfl) (fun _ _ _ h => h) (Or.inl ⟨by rfl, ?_⟩) HH.out ?_
          rotate_left
          · intro wS hSw
            try dsimp only at hSw
            go_simp
            all_goals (with_reducible rfl)
          simp only [Act.put, List.setIfInBounds_toArray, List.set_cons_zero, List.set_cons_succ]
          refine wpAnyH_take (i := 3) (oi := ⟨some _, _, _, _, _, _⟩) (v := ?_) rfl (by kernel_rfl) (by kernel_rfl) (by kernel_rfl) (fun _ _ _ h => h) (Or.inl ⟨by rfl, ?_⟩) HH.out ?_
          rotate_left
          · intro wS hSw
            try dsimp only at hSw
            go_simp
            all_goals (with_reducible rfl)
          simp only [Act.put, List.setIfInBounds_toArray, List.set_cons_zero, List.set_cons_succ]
          refine wpAnyH_take (i := 4) (oi := ⟨some _, _, _, _, _, _⟩) (v := ?_) rfl (by kernel_rfl) (by kernel_rfl) (by kernel_rfl) (fun _ _ _ h => h) (Or.inl ⟨by rfl, ?_⟩) HH.out ?_
          rotate_left
          · intro wS hSw
            try dsimp only at hSw
            go_simp
            all_goals (with_reducible rfl)
          simp only [Act.put, List.setIfInBounds_toArray, List.set_cons_zero, List.set_cons_succ]
          refine wpAnyH_take (i := 5) (oi := ⟨some _, _, _, _, _, _⟩) (v := ?_) rfl (by kernel_rfl) (by kernel_rfl) (by kernel_rfl) (fun _ _ _ h => h) (Or.inl ⟨by rfl, ?_⟩) HH.out ?_
          rotate_left
          · intro wS hSw
            try dsimp only at hSw
            go_simp
            all_goals (with_reducible rfl)
          simp only [Act.put, List.setIfInBounds_toArray, List.set_cons_zero, List.set_cons_succ]
          refine wpAnyH_take (i := 6) (oi := ⟨some _, _, _, _, _, _⟩) (v := ?_) rfl (by kernel_rfl) (by kernel_rfl) (by kernel_rfl) (fun _ _ _ h => h) (Or.inl ⟨by rfl, ?_⟩) HH.out ?_
          rotate_left
          · intro wS hSw
            try dsimp only at hSw
            go_simp
            all_goals (with_reducible rfl)
          simp only [Act.put, List.setIfInBounds_toArray, List.set_cons_zero, List.set_cons_succ]
          refine wpAnyH_take (i := 7) (oi := ⟨some _, _, _, _, _, _⟩) (v := ?_) rfl (by kernel_rfl) (by kernel_rfl) (by kernel_rfl) (fun _ _ _ h => h) (Or.inl ⟨by rfl, ?_⟩) HH.out ?_
          rotate_left
          · intro wS hSw
            try dsimp only at hSw
            go_simp
            all_goals (with_reducible rfl)
          simp only [Act.put, List.setIfInBounds_toArray, List.set_cons_zero, List.set_cons_succ]
          refine wpAnyH_take (i := 8) (oi := ⟨some _, _, _, _, _, _⟩) (v := ?_) rfl (by kernel_rfl) (by kernel_rfl) (by kernel_rfl) (fun _ _ _ h => h) (Or.inl ⟨by rfl, ?_⟩) HH.out ?_
          rotate_left
          · intro wS hSw
            try dsimp only at hSw
            go_simp
            all_goals (with_reducible rfl)
          simp only [Act.put, List.setIfInBounds_toArray, List.set_cons_zero, List.set_cons_succ]
          refine wpAnyH_take (i := 9) (oi := ⟨some _, _, _, _, _, _⟩) (v := ?_) rfl (by kernel_rfl) (by kernel_rfl) (by kernel_rfl) (fun _ _ _ h => h) (Or.inl ⟨by rfl, ?_⟩) HH.out ?_
          rotate_left
          · intro wS hSw
            try dsimp only at hSw
            go_simp
            all_goals (with_reducible rfl)
          simp only [Act.put, List.setIfInBounds_toArray, List.set_cons_zero, List.set_cons_succ]
          refine wpAnyH_take (i := 10) (oi := ⟨some _, _, _, _, _, _⟩) (v := ?_) rfl (by kernel_rfl) (by kernel_rfl) (by kernel_rfl) (fun _ _ _ h => h) (Or.inl ⟨by rfl, ?_⟩) HH.out ?_
          rotate_left
          · intro wS hSw
            try dsimp only at hSw
            go_simp
            all_goals (with_reducible rfl)
          simp only [Act.put, List.setIfInBounds_toArray, List.set_cons_zero, List.set_cons_succ]
          refine wpAnyH_take (i := 11) (oi := ⟨some _, _, _, _, _, _⟩) (v := ?_) rfl (by kernel_rfl) (by kernel_rfl) (by kernel_rfl) (fun _ _ _ h => h) (Or.inl ⟨by rfl, ?_⟩) HH.out ?_
          rotate_left
          · intro wS hSw
            try dsimp only at hSw
            go_simp
            all_goals (with_reducible rfl)
          simp only [Act.put, List.setIfInBounds_toArray, List.set_cons_zero, List.set_cons_succ]
          refine wpAnyH_take (i := 12) (oi := ⟨some _, _, _, _, _, _⟩) (v := ?_) rfl (by kernel_rfl) (by kernel_rfl) (by kernel_rfl) (fun _ _ _ h => h) (Or.inl ⟨by rfl, ?_⟩) HH.out ?_
          rotate_left
          · intro wS hSw
            try dsimp only at hSw
            go_simp
            all_goals (with_reducible rfl)
          simp only [Act.put, List.setIfInBounds_toArray, List.set_cons_zero, List.set_cons_succ]
          refine wpAnyH_take (i := 13) (oi := ⟨some _, _, _, _, _, _⟩) (v := ?_) rfl (by kernel_rfl) (by kernel_rfl) (by kernel_rfl) (fun _ _ _ h => h) (Or.inl ⟨by rfl, ?_⟩) HH.out ?_
          rotate_left
          · intro wS hSw
            try dsimp only at hSw
            go_simp
            all_goals (with_reducible rfl)
          simp only [Act.put, List.setIfInBounds_toArray, List.set_cons_zero, List.set_cons_succ]
          refine wpAnyH_done (by kernel_rfl) ?_ _
          clear HH
          go_wp2
          go_ret2
          rw [HR.out, HE.out]
          exact ⟨_, rfl, row_own (Row.nil _ _ _ .u8 5 _), hbY.out.alloc hbY.out.size _⟩
        case pos =>
          have hidb : (g.1 != g0.1 + (j : Int)) = false := by simpa using hid
          have HC := Lib.hid (show chain gs (j + 1) = true by rw [HCH.out, hv, decide_eq_true hid]; rfl)
          have hsum : N + n3 ≤ 1048576 := by
            have h1 := flat_le (gs := gs) (j + 1)
            rw [Gen.flat_take HG.out, List.length_append, hs3l, HA.out.2.1] at h1
            exact Nat.le_trans h1 HF.out.len
          clear hg hg0 hid
          go_wp2
          refine wp_region_held (S := fun w' => w'.cell? ⟨wr.heap.size, 0, none⟩ = some (.int .i64 g.1) ∧ w'.cell? ⟨wr.heap.size, 1, none⟩ = some (.slice ad3 n3 cap3) ∧ w'.cell? a1 = some (.int .i64 g0.1)) (by kernel_rfl) ?_
          change wpAnyH _ _ _ _ _ _ _ _ (World.drew _)
          generalize wr.alloc (.cells #[.int .i64 g.1, .slice ad3 n3 cap3] 34) = D0 at *
          replace BG : Blk D0.drew wr.heap.size 34 (.int .i64 g.1) (.slice ad3 n3 cap3) := BG.drewN 1
          replace bD : Below wr.heap.size wr D0.drew := bD.drew
          replace zD : D0.drew.heap.size = wr.heap.size + 1 := zD
          generalize D0.drew = D at *
          have hdD : D.cell? a1 = some (.int .i64 g0.1) := (bD.cell (World.block_lt_of_cell? _ _ hd0)).trans hd0
          have HH := Lib.hid (show D.cell? ⟨wr.heap.size, 0, none⟩ = some (.int .i64 g.1) ∧ D.cell? ⟨wr.heap.size, 1, none⟩ = some (.slice ad3 n3 cap3) ∧ D.cell? a1 = some (.int .i64 g0.1) from ⟨BG.c0, BG.c1, hdD⟩)
          have KG := Lib.hid (GenI.isGen D (g := g) ⟨_, rfl, hg1, _, _, _, rfl, hs3.below bD (.inr (Nat.le_refl _))⟩ HFG.out)
          rw [hv] at KG
          refine wpAnyH_take (i := 0) (oi := ⟨some _, _, _, _, _, _⟩) (v := ?_) rfl (by kernel_rfl) (by kernel_rfl) (by kernel_rfl) (fun _ _ _ h => h) (Or.inl ⟨by rfl, ?_⟩) HH.out ?_
          rotate_left
          · intro wS hSw
            try dsimp only at hSw
            go_simp
            all_goals (with_reducible rfl)
          simp only [Act.put, List.setIfInBounds_toArray, List.set_cons_zero, List.set_cons_succ]
          refine wpAnyH_ready (rs := [1]) (by kernel_rfl) (by simp) ?_
          refine AllReadyH.cons (o := ⟨some _, _, _, _, _, _⟩) rfl (fun Kq hKq => ?_) AllReadyH.nil
          go_simp
          refine KG.out.mono ?_
          rintro e y1 ⟨rfl, bl⟩
          have BY := BG.below bl (by omega)
          have hdY : y1.cell? a1 = some (.int .i64 g0.1) := (bl.cell (World.block_lt_of_cell? _ _ hdD)).trans hdD
          have hbY := Lib.hid (hb.trans ((bD.trans (bl.mono (by omega))).mono zb))
          have hbW := Lib.hid (bD.trans (bl.mono (by omega)))
          have zY := bl.size
          clear HH bl BG hdD bD
          have HH := Lib.hid (show y1.cell? ⟨wr.heap.size, 0, none⟩ = some (.int .i64 g.1) ∧ y1.cell? ⟨wr.heap.size, 1, none⟩ = some (.slice ad3 n3 cap3) ∧ y1.cell? a1 = some (.int .i64 g0.1) from ⟨BY.c0, BY.c1, hdY⟩)
          refine hKq.out _ _ HH.out (fun _ => ?_)
          clear hKq Kq
          refine wpAnyH_take (i := 2) (oi := ⟨some _, _, _, _, _, _⟩) (v := ?_) rfl (by kernel_rfl) (by kernel_rfl) (by kernel_rfl) (fun _ _ _ h => h) (Or.inl ⟨by rfl, ?_⟩) HH.out ?_
          rotate_left
          · intro wS hSw
            try dsimp only at hSw
            go_simp
            all_goals (with_reducible rfl)
          simp only [Act.put, List.setIfInBounds_toArray, List.set_cons_zero, List.set_cons_succ]
          refine wpAnyH_take (i := 3) (oi := ⟨some _, _, _, _, _, _⟩) (v := ?_) rfl (by kernel_rfl) (by kernel_rfl) (by kernel_rfl) (fun _ _ _ h => h) (Or.inl ⟨by rfl, ?_⟩) HH.out ?_
          rotate_left
          · intro wS hSw
            try dsimp only at hSw
            go_simp
            all_goals (with_reducible rfl)
          simp only [Act.put, List.setIfInBounds_toArray, List.set_cons_zero, List.set_cons_succ]
          refine wpAnyH_take (i := 4) (oi := ⟨some _, _, _, _, _, _⟩) (v := ?_) rfl (by kernel_rfl) (by kernel_rfl) (by kernel_rfl) (fun _ _ _ h => h) (Or.inl ⟨by rfl, ?_⟩) HH.out ?_
          rotate_left
          · intro wS hSw
            try dsimp only at hSw
            go_simp
            all_goals (with_reducible rfl)
          simp only [Act.put, List.setIfInBounds_toArray, List.set_cons_zero, List.set_cons_succ]
          refine wpAnyH_take (i := 5) (oi := ⟨some _, _, _, _, _, _⟩) (v := ?_) rfl (by kernel_rfl) (by kernel_rfl) (by kernel_rfl) (fun _ _ _ h => h) (Or.inl ⟨by rfl, ?_⟩) HH.out ?_
          rotate_left
          · intro wS hSw
            try dsimp only at hSw
            go_simp
            all_goals (with_reducible rfl)
          simp only [Act.put, List.setIfInBounds_toArray, List.set_cons_zero, List.set_cons_succ]
          refine wpAnyH_take (i := 6) (oi := ⟨some _, _, _, _, _, _⟩) (v := ?_) rfl (by kernel_rfl) (by kernel_rfl) (by kernel_rfl) (fun _ _ _ h => h) (Or.inl ⟨by rfl, ?_⟩) HH.out ?_
          rotate_left
          · intro wS hSw
            try dsimp only at hSw
            go_simp
            all_goals (with_reducible rfl)
          simp only [Act.put, List.setIfInBounds_toArray, List.set_cons_zero, List.set_cons_succ]
          refine wpAnyH_take (i := 7) (oi := ⟨some _, _, _, _, _, _⟩) (v := ?_) rfl (by kernel_rfl) (by kernel_rfl) (by kernel_rfl) (fun _ _ _ h => h) (Or.inl ⟨by rfl, ?_⟩) HH.out ?_
          rotate_left
          · intro wS hSw
            try dsimp only at hSw
            go_simp
            all_goals (with_reducible rfl)
          simp only [Act.put, List.setIfInBounds_toArray, List.set_cons_zero, List.set_cons_succ]
          refine wpAnyH_take (i := 8) (oi := ⟨some _, _, _, _, _, _⟩) (v := ?_) rfl (by kernel_rfl) (by kernel_rfl) (by kernel_rfl) (fun _ _ _ h => h) (Or.inl ⟨by rfl, ?_⟩) HH.out ?_
          rotate_left
          · intro wS hSw
            try dsimp only at hSw
            go_simp
            all_goals (with_reducible rfl)
          simp only [Act.put, List.setIfInBounds_toArray, List.set_cons_zero, List.set_cons_succ]
          refine wpAnyH_take (i := 9) (oi := ⟨some _, _, _, _, _, _⟩) (v := ?_) rfl (by kernel_rfl) (by kernel_rfl) (by kernel_rfl) (fun _ _ _ h => h) (Or.inl ⟨by rfl, ?_⟩) HH.out ?_
          rotate_left
          · intro wS hSw
            try dsimp only at hSw
            go_simp
            all_goals (with_reducible rfl)
          simp only [Act.put, List.setIfInBounds_toArray, List.set_cons_zero, List.set_cons_succ]
          refine wpAnyH_take (i := 10) (oi := ⟨some _, _, _, _, _, _⟩) (v := ?_) rfl (by kernel_rfl) (by kernel_rfl) (by kernel_rfl) (fun _ _ _ h => h) (Or.inl ⟨by rfl, ?_⟩) HH.out ?_
          rotate_left
          · intro wS hSw
            try dsimp only at hSw
            go_simp
            all_goals (with_reducible rfl)
          simp only [Act.put, List.setIfInBounds_toArray, List.set_cons_zero, List.set_cons_succ]
          refine wpAnyH_take (i := 11) (oi := ⟨some _, _, _, _, _, _⟩) (v := ?_) rfl (by kernel_rfl) (by kernel_rfl) (by kernel_rfl) (fun _ _ _ h => h) (Or.inl ⟨by rfl, ?_⟩) HH.out ?_
          rotate_left
          · intro wS hSw
            try dsimp only at hSw
            go_simp
            all_goals (with_reducible rfl)
          simp only [Act.put, List.setIfInBounds_toArray, List.set_cons_zero, List.set_cons_succ]
          refine wpAnyH_take (i := 12) (oi := ⟨some _, _, _, _, _, _⟩) (v := ?_) rfl (by kernel_rfl) (by kernel_rfl) (by kernel_rfl) (fun _ _ _ h => h) (Or.inl ⟨by rfl, ?_⟩) HH.out ?_
          rotate_left
          · intro wS hSw
            try dsimp only at hSw
            go_simp
            all_goals (with_reducible rfl)
          simp only [Act.put, List.setIfInBounds_toArray, List.set_cons_zero, List.set_cons_succ]
          refine wpAnyH_take (i := 13) (oi := ⟨some _, _, _, _, _, _⟩) (v := ?_) rfl (by kernel_rfl) (by kernel_rfl) (by kernel_rfl) (fun _ _ _ h => h) (Or.inl ⟨by rfl, ?_⟩) HH.out ?_
          rotate_left
          · intro wS hSw
            try dsimp only at hSw
            go_simp
            all_goals (with_reducible rfl)
          simp only [Act.put, List.setIfInBounds_toArray, List.set_cons_zero, List.set_cons_succ]
          refine wpAnyH_done (by kernel_rfl) ?_ _
          clear HH
          obtain ⟨A3, rfl⟩ : ∃ A, ad3 = some A := by
            obtain ⟨a, _, _, _, _, e, _⟩ := HWS.out.at_ (j := 0) (by omega)
            exact ⟨a, e⟩
          obtain ⟨vs, hvl, hvc, hvi⟩ := heads HWS.out
          have HVC := Lib.hid (fun (i : Nat) (v : Value) (hv : vs[i]? = some v) => (hbY.out.cell (World.block_lt_of_cell? _ _ (hvc i v hv).1)).trans (hvc i v hv).1)
          have HV1 := Lib.hid (show ∀ v ∈ vs, v.oneCell' = true from fun v hv => by obtain ⟨i, hi⟩ := List.mem_iff_getElem?.1 hv; exact (hvc i v hi).2)
          have HVI := Lib.hid hvi
          have c0 := BY.c0
          have c1 := BY.c1
          have HR2 := Lib.hid ((hr.below hbW.out (.inr (Nat.le_refl _))).mono (h' := y1.heap.size) hbW.out.size)
          have hbz := hbW.out.size
          clear hvc hvi hr
          go_wp2_with (at_builtin; refine wpList_pushK (K := 1) (by decide) (m := n3) (by omega) (k1 HR2.out) (vs := vs) (by rw [hvl, Nat.mul_one]) HVC.out HV1.out Try.underlying32 info_ints rfl (by unfold maxLen; omega) (by omega) rfl _ _ rfl rfl rfl ?_; intro q5 cap5 y3 o5 p5)
          have r5 := ((v1 o5).lo (l' := w.heap.size) (by have := hbY.out.size; rcases p5 with ⟨_, h1, _⟩ | ⟨h1, _⟩ <;> omega)).lt
          have hb5 := hbY.out.trans (p5.below (Nat.le_refl _) hbY.out.size)
          have hul := HR2.out.len
          go_roundw
          case rel => exact ⟨j + 1, _, _, _, _, by omega, hsum, by go_num, rfl, r5, hb5, HC.out, by rw [Gen.flat_take HG.out, List.length_append, HA.out.2.1, hs3l], fun i u xs hu hx => by
            rw [Gen.flat_take HG.out] at hx
            by_cases hi : i < N
            · rw [List.getElem?_append_left (by omega)] at hu
              rw [List.getElem?_append_left (by rw [HA.out.2.1]; exact hi)] at hx
              exact HA.out.2.2 i u xs hu hx
            · rw [List.getElem?_append_right (by omega), hul] at hu
              rw [List.getElem?_append_right (by rw [HA.out.2.1]; omega), HA.out.2.1] at hx
              exact HVI.out (i - N) u xs hu hx⟩
          case measure => simp [intOf]; omega
    · obtain rfl : j = n := by omega
      have hall : gs.take j = gs := List.take_of_length_le (by rw [hL.out]; omega)
      obtain ⟨h1, h2, h3⟩ := HA.out
      rw [hall] at h2 h3
      have HE := Lib.hid (show R = Gen.toData (gs.flatMap (·.2)) by rw [HR.out]; exact join_ok (by rw [hL.out]; exact h1))
      have KD := Lib.hid (toData wr ⟨_, _, _, rfl, heads_sls hr h2 h3 hb⟩ HF.out)
      rw [← HE.out] at KD
      clear h2 h3 hall HE HA HR
      go_wp2_with fail
      go_at_call 25
      refine KD.out.mono ?_
      rintro e w4 ⟨u4, rfl, o4, b4⟩
      obtain ⟨ad4, n4, cap4, rfl⟩ : ∃ ad n cap, u4 = .slice ad n cap := by
        obtain ⟨ad, n, cap, e, _⟩ := ByteSO_is o4
        exact ⟨ad, n, cap, e⟩
      have HO := Lib.hid o4
      have HB4 := Lib.hid (hb.trans (b4.mono zb))
      clear o4 b4
      go_wp2
      go_ret2
      exact ⟨_, rfl, Own.mono HO.out zb (Nat.le_refl _), HB4.out⟩
end Go.Proofs.Ytkppkbafoeblhaa.GenI
namespace Go.Proofs.Ytkppkbafoeblhaa.GenI
open Go.RowKit Go.Shelf
open Go.Proofs.Ytkppkbafoeblhaa.Seq Go.Proofs.Ytkppkbafoeblhaa.Help Go.Proofs.Ytkppkbafoeblhaa.Field Go.Proofs.Ytkppkbafoeblhaa.FieldW Go.Proofs.Ytkppkbafoeblhaa.Vec Go.Proofs.Ytkppkbafoeblhaa.Mat Go.Proofs.Ytkppkbafoeblhaa.Shape Go.Proofs.Ytkppkbafoeblhaa.Gen Go.Proofs.Ytkppkbafoeblhaa.GenW Go.Proofs.Ytkppkbafoeblhaa.Deep
attribute [local go_sem] Oper.semAt_some

/-- 'append(l, x)' of a struct, as the walk meets it behind a fence. -/
theorem wpListIn_snocK {F : Fence} {fu : Nat} {K : Nat} (hK0 : 0 < K) {P : Program} {w : World} {ops : Array Oper} {rest : List Oper} {o : Oper} {a : Act} {Q : Exit → Act → World → Prop} {l h : Nat} {e : TypeId} {ad : Option Addr} {n cap : Nat} {us vs : List Value}
    (r : RowK K w l h e ad n cap us) {A : Addr} (hl : vs.length = K) (src : ∀ j v, vs[j]? = some v → w.cell? (A.add j) = some v) (hnews : ∀ v ∈ vs, v.oneCell' = true) {t : TypeId} (ht : P.underlying t = some (.slice e)) {z : Value} {bytes : Nat}
    (hinfo : (P.info? e).map (fun i => (i.zero, i.size, i.bytes)) = some (some z, K, bytes)) (hzs : z.cells.size = K) (h63 : n + 1 ≤ maxLen) (hby : (n + 1) * bytes ≤ 140737488355328)
    (hg : o.guard = none) (p q : Operand) (hop : o.op = Op.call { callee := Callee.builtin Builtin.append, args := #[p, q], argTypes := #[t, t] }) (hp : a.eval p = .slice ad n cap) (hq : a.eval q = .slice (some A) 1 1)
    (hK : ∀ g cap' w', RowK K w' g (g + 1) e (some ⟨g, 0, none⟩) (n + 1) cap' (us ++ vs) → Put w w' l h ad g → wpListIn F fu P ops Q rest (a.put o.dst (.slice (some ⟨g, 0, none⟩) (n + 1) cap')) w') : wpListIn F fu P ops Q (o :: rest) a w := by
  obtain ⟨i, hi, hz, hs, hb⟩ := info_parts hinfo
  refine wpListIn_plain hg fun Kp hK' => ?_
  obtain ⟨g, cap', w', hrun, hr, hm⟩ := run_snocK hK0 (P := P) (t := t) (ty := o.type) ht hi hz hs hb hzs r hl src hnews h63 hby
  unfold Oper.wpIn
  refine ⟨?_, ?_⟩
  · simp [Oper.about, hop, resolve, Target.leads, Sem.run_pure]
  · rw [Oper.semAt_plain F _ _ (by rw [hop]; intro c hc'; cases hc')]
    simp [execOp, hop, resolve, invoke, builtin, hp, hq, hrun, Result.andThen]
    exact hK' _ _ (hK g cap' w' hr hm)

set_option maxRecDepth 100000 in
set_option maxHeartbeats 3200000 in
theorem split : SplitOp := fun w l h v xs s0 f W hW0 hW1 S hS0 hS1 F hF0 hF1 => by
  have V1 := fun o o1 o2 => inRange_is (((w.alloc o).alloc o1).alloc o2) S 1 8
  have V2 := fun o o1 o2 => inRange_is (((w.alloc o).alloc o1).alloc o2) F 0 999999999590
  have hB0 : ∀ o o1 o2, Below w.heap.size w (((w.alloc o).alloc o1).alloc o2) := fun o o1 o2 => (((Below.refl _ w).alloc (Nat.le_refl _) _).alloc (by simp) _).alloc (by simp; omega) _
  have hsp : Gen.split xs W S F = bif splitOk S F then (List.range (cuts S.toNat (Gen.toSym xs W).length)).map fun (i : Nat) => (F + (i : Int), Gen.part S.toNat (Gen.toSym xs W) i) else [] := rfl
  have hok : splitOk S F = ((decide (1 ≤ S) && decide (S ≤ 8)) && (decide (0 ≤ F) && decide (F ≤ 999999999590))) := rfl
  obtain ⟨ad, n, cap, rfl, s⟩ := id s0
  cases hS : (decide (1 ≤ S) && decide (S ≤ 8))
  · rw [hS] at V1 hok
    rw [hok] at hsp
    have HE := Lib.hid hsp
    have V1 := Lib.hid V1
    have hB0 := Lib.hid hB0
    clear hsp hok hS V2 s s0 f
    go_enter Try.func15, Try.ntmps15
    go_wp2_with fail
    go_at_call 55
    refine (V1.out _ _ _).mono ?_
    rintro e w' ⟨rfl, rfl⟩
    go_wp2
    go_ret
    rw [HE.out]
    exact ⟨_, rfl, (Grown.nil _ _ 34 tBas _).done (fun e => by cases e), hB0.out _ _ _⟩
  rw [hS] at V1 hok
  cases hF : (decide (0 ≤ F) && decide (F ≤ 999999999590))
  · rw [hF] at V2 hok
    rw [hok] at hsp
    have HE := Lib.hid hsp
    have V1 := Lib.hid V1
    have V2 := Lib.hid V2
    have hB0 := Lib.hid hB0
    clear hsp hok hS hF s s0 f
    go_enter Try.func15, Try.ntmps15
    go_wp2_with fail
    go_at_call 55
    refine (V1.out _ _ _).mono ?_
    rintro e w' ⟨rfl, rfl⟩
    go_wp2_with fail
    go_at_call 55
    refine (V2.out _ _ _).mono ?_
    rintro e w' ⟨rfl, rfl⟩
    go_wp2
    go_ret
    rw [HE.out]
    exact ⟨_, rfl, (Grown.nil _ _ 34 tBas _).done (fun e => by cases e), hB0.out _ _ _⟩
  rw [hF] at V2 hok
  rw [hok] at hsp
  simp only [Bool.and_eq_true, decide_eq_true_eq] at hS hF
  obtain ⟨K, rfl⟩ : ∃ K : Nat, S = K := ⟨S.toNat, by omega⟩
  simp only [Int.toNat_natCast, Bool.true_and, cond_true] at hsp
  have HE := Lib.hid hsp
  have KT := Lib.hid (fun (w' : World) (b : Below w.heap.size w w') => toSym w' (ByteSI_below s0 b (.inr (Nat.le_refl _))) f W hW0 hW1)
  have hm1 := toSym_len (d := xs) (W := W)
  rw [HE.out]
  generalize Gen.toSym xs W = M at *
  have V1 := Lib.hid V1
  have V2 := Lib.hid V2
  have hB0 := Lib.hid hB0
  clear hsp hok s s0 f
  refine (callsIn_wide (n := 3)).1 ?_
  refine callsIn_of_wp_marks Try.func15 rfl trivial ?_ rfl
  simp only [Try.ntmps15, List.size_toArray, List.length_cons, List.length_nil, Nat.reduceAdd, Nat.reduceSub, Array.replicate_succ, Array.replicate_zero, List.push_toArray, List.append_toArray, List.nil_append, List.cons_append]
  gi_wp2_with fail
  refine ⟨trivial, ?_⟩
  refine (callsIn_wide.2 (V1.out _ _ _)).mono ?_
  rintro e w2 ⟨rfl, rfl⟩
  gi_wp2_with fail
  refine ⟨trivial, ?_⟩
  refine (callsIn_wide.2 (V2.out _ _ _)).mono ?_
  rintro e w2 ⟨rfl, rfl⟩
  gi_wp2_with fail
  refine ⟨trivial, ?_⟩
  have bK := ((Boxed.new w 3 (.int .i64 F)).alloc (.cells #[] 34)).alloc (.cells #[.slice (some ⟨w.heap.size + 1, 0, none⟩) 0 0] 26)
  have bO := Boxed.new ((w.alloc (.cells #[.int .i64 F] 3)).alloc (.cells #[] 34)) 26 (.slice (some ⟨w.heap.size + 1, 0, none⟩) 0 0)
  rw [World.size_alloc, World.size_alloc] at bO
  have sol : Solid (((w.alloc (.cells #[.int .i64 F] 3)).alloc (.cells #[] 34)).alloc (.cells #[.slice (some ⟨w.heap.size + 1, 0, none⟩) 0 0] 26)) (some ⟨w.heap.size + 1, 0, none⟩) := fun g e => by
    obtain rfl := (Addr.mk.inj (Option.some.inj e)).1
    refine ⟨.cells #[] 34 (0, 0), (Below.heap_alloc _ _ _ (by simp)).trans ?_, rfl⟩
    have := World.alloc_heap_new (w.alloc (.cells #[.int .i64 F] 3)) (.cells #[] 34)
    rwa [World.size_alloc] at this
  have hb0 := hB0.out (.cells #[.int .i64 F] 3) (.cells #[] 34) (.cells #[.slice (some ⟨w.heap.size + 1, 0, none⟩) 0 0] 26)
  have hz0 : (((w.alloc (.cells #[.int .i64 F] 3)).alloc (.cells #[] 34)).alloc (.cells #[.slice (some ⟨w.heap.size + 1, 0, none⟩) 0 0] 26)).heap.size = w.heap.size + 3 := by simp
  generalize ((w.alloc (.cells #[.int .i64 F] 3)).alloc (.cells #[] 34)).alloc (.cells #[.slice (some ⟨w.heap.size + 1, 0, none⟩) 0 0] 26) = D at *
  refine (callsIn_wide.2 (KT.out D hb0)).mono ?_
  rintro e y1 ⟨_, rfl, ⟨adS, m, capS, usS, rfl, nt⟩, bY⟩
  have hzY := bY.size
  replace bK := box_below bK bY (by omega)
  replace bO := box_below bO bY (by omega)
  replace sol := sol.below bY (Nat.le_refl _)
  replace hb0 := hb0.trans (bY.mono (by omega))
  have hmy := nt.len
  clear bY
  gi_wp2_with fail
  refine ⟨trivial, ?_⟩
  refine (callsIn_wide.2 (chunkFnRows y1 adS m capS K (by omega) (by omega))).mono ?_
  rintro e y2 ⟨rfl, rfl⟩
  have bA := (Boxed.new y1 32 (.slice adS m capS)).alloc (.cells #[.int .i64 K] 3)
  have bB := Boxed.new (y1.alloc (.cells #[.slice adS m capS] 32)) 3 (.int .i64 K)
  rw [World.size_alloc] at bB
  replace bK := (bK.alloc (.cells #[.slice adS m capS] 32)).alloc (.cells #[.int .i64 K] 3)
  replace bO := (bO.alloc (.cells #[.slice adS m capS] 32)).alloc (.cells #[.int .i64 K] 3)
  have nt2 := (nt.alloc (.cells #[.slice adS m capS] 32)).alloc (.cells #[.int .i64 K] 3)
  have kc2 : Kc y1 (boxesRows y1 (.slice adS m capS) (.int .i64 K)) := kc_of (World.grownBy_alloc _ _ none |>.trans (World.grownBy_alloc _ _ none)) (fun r e => by cases e)
  replace sol := sol.kc kc2
  have hz2 : (boxesRows y1 (.slice adS m capS) (.int .i64 K)).heap.size = y1.heap.size + 2 := by unfold boxesRows; simp
  replace hb0 : Below w.heap.size w (boxesRows y1 (.slice adS m capS) (.int .i64 K)) := (hb0.alloc (by omega) _).alloc (by simp; omega) _
  change Boxed (boxesRows _ _ _) _ _ _ at bK
  change Boxed (boxesRows _ _ _) _ _ _ at bO
  change Boxed (boxesRows _ _ _) _ _ _ at bA
  change Boxed (boxesRows _ _ _) _ _ _ at bB
  change Net (boxesRows _ _ _) _ _ _ _ _ _ _ _ at nt2
  clear nt kc2
  generalize boxesRows y1 (.slice adS m capS) (.int .i64 K) = W1 at *
  gi_wp2
  have hmm : m ≤ capS := nt2.out.le
  have hmx : capS ≤ maxLen := nt2.out.big
  have hmn : adS = none → capS = 0 := nt2.out.nil
  have hI0 : RowK 2 W1 W1.heap.size W1.heap.size 34 (some ⟨w.heap.size + 1, 0, none⟩) 0 0 (countOn F (fun x : Fin (cuts K m) => piece adS m K x.val) [] 0) := RowK.nil _ _ _ _ _
  have hC : cuts K m ≤ m := by
    unfold cuts
    exact Nat.le_of_lt_succ (Nat.div_lt_of_lt_mul (by rw [Nat.mul_succ]; have := Nat.le_mul_of_pos_left m (show 0 < K by omega); omega))
  refine wpIn_rangeFunc_ownG (α := Fin (cuts K m)) rfl (by omega) (gf := 81) (lb := #[.pointer (some ⟨y1.heap.size, 0, none⟩), .pointer (some ⟨y1.heap.size + 1, 0, none⟩)]) rfl trivial (enters_of Try.func81 (by kernel_rfl) rfl)
    (encs := fun x => #[piece adS m K x.val]) (Kp := KeepB y1.heap.size (y1.heap.size + 1)) (S := fun zs => zs = List.finRange (cuts K m)) (Sp := fun pre => pre <+: List.finRange (cuts K m)) (N := cuts K m) (w0 := W1)
    (fun l3 J Jx W hW hJ _ hY h0 => chunk1Rows 2 (by omega) l3 _ _ hmm hmx hmn (by omega) (by omega) (by omega) _ J Jx hJ W hY (box_below bA hW (by omega)) (box_below bB hW (by omega)) h0)
    KeepB.trans (keepB_put (by omega) (by omega)) (Below.refl _ _) (fun _ => rfl)
    (fun (pre : List (Fin (cuts K m))) W => (∃ ad' N' cap', Boxed W (w.heap.size + 1 + 1) 26 (.slice ad' N' cap') ∧ RowK 2 W W1.heap.size W.heap.size 34 ad' N' cap' (countOn F (fun x : Fin (cuts K m) => piece adS m K x.val) pre 0) ∧ Solid W ad' ∧
      Boxed W w.heap.size 3 (.int .i64 F) ∧ Net W D.heap.size y1.heap.size 3 adS m capS usS M ∧ Boxed W y1.heap.size 32 (.slice adS m capS) ∧ Boxed W (y1.heap.size + 1) 3 (.int .i64 K) ∧ W1.heap.size ≤ W.heap.size) ∧ Below w.heap.size w W)
    (fun _ _ _ => False)
    (OwnFrom.and (Own.from (own_kc fun s X Y m h => by
      obtain ⟨ad', N', cap', i1, i2, i4, i5, i6, i7, i8, i9⟩ := h
      exact ⟨ad', N', cap', box_kc i1 m, (i2.kc m).mono m.size, i4.kc m, box_kc i5 m, i6.kc m, box_kc i7 m, box_kc i8 m, Nat.le_trans i9 m.size⟩) _) (ownFrom_below (Nat.le_refl _) (by omega)))
    (fun _ _ _ _ _ hs _ _ => hs)
    ⟨⟨_, _, _, bO, hI0, sol, bK, nt2, bA, bB, Nat.le_refl _⟩, hb0⟩
    (fun x => { tmps := #[.slice ad n cap, .int .i64 W, .int .i64 K, .int .i64 F, undef, undef, undef, .pointer (some ⟨w.heap.size, 0, none⟩), .slice none 0 0, .pointer (some ⟨w.heap.size + 1 + 1, 0, none⟩), piece adS m K x.val, .slice (some ⟨w.heap.size + 1, 0, none⟩) 0 0, .int .i64 K, .bool true, .bool false, .bool false, .int .i64 F, .bool true, .bool false, .bool false, undef, .slice ad n cap, .int .i64 W, .slice adS m capS, .int .i64 K, .func (.func 81) #[] #[.pointer (some ⟨y1.heap.size, 0, none⟩), .pointer (some ⟨y1.heap.size + 1, 0, none⟩)], piece adS m K x.val, undef, undef, undef, undef, undef, undef, undef, undef, undef, undef], defers := [] }) ?assign ?body ?done ?stop
  case assign =>
    intro l x W K' hK
    unfold piece at *
    gi_wp2
    exact hK
  case body =>
    rintro l pre ⟨x, hx⟩ W ⟨⟨ad', N', cap', i1, i2, i4, i5, i6, i7, i8, i9⟩, hBW⟩ hlt
    have hN := i2.len
    rw [countOn_len] at hN
    have hN' : N' = pre.length := by omega
    have HCS := Lib.hid (show countOn F (fun x : Fin (cuts K m) => piece adS m K x.val) (pre ++ [⟨x, hx⟩]) 0 = countOn F (fun x : Fin (cuts K m) => piece adS m K x.val) pre 0 ++ [.int .i64 (F + (N' : Int)), .slice (adS.map (·.add (x * K))) (min K (m - x * K)) (min K (m - x * K))] by
      rw [hN']; exact countOn_snoc F (fun x : Fin (cuts K m) => piece adS m K x.val) pre ⟨x, hx⟩)
    have hw : IntKind.i64.wrap (F + (N' : Int)) = F + (N' : Int) := by rw [IntKind.wrap_i64]; omega
    have hNle : N' ≤ 405 := by omega
    clear hN hN'
    unfold piece
    dsimp only
    generalize min K (m - x * K) = E at *
    generalize adS.map (·.add (x * K)) = Ax at *
    have c1 := i1.cell
    have c5 := i5.cell
    have m1 := i1.alloc (.cells #[.int .i64 (F + (N' : Int)), .slice Ax E E] 34)
    have hWT : Whole (W.alloc (.cells #[.int .i64 (F + (N' : Int)), .slice Ax E E] 34)) W.heap.size 34 [.int .i64 (F + (N' : Int)), .slice Ax E E] := ⟨heap_alloc_new W _⟩
    have hsrc : ∀ i v, [Value.int .i64 (F + (N' : Int)), .slice Ax E E][i]? = some v → (W.alloc (.cells #[.int .i64 (F + (N' : Int)), .slice Ax E E] 34)).cell? ((⟨W.heap.size, 0, none⟩ : Addr).add i) = some v := fun i v hv => by
      rw [Addr.add_lit, Nat.zero_add]; exact hWT.cell hv
    have HSR := Lib.hid hsrc
    have HI := Lib.hid (show _ ∧ _ ∧ _ ∧ _ ∧ _ ∧ _ ∧ _ from ⟨m1, i2.alloc (.cells #[.int .i64 (F + (N' : Int)), .slice Ax E E] 34), i4.kc (kc_of (World.grownBy_alloc W (.cells #[.int .i64 (F + (N' : Int)), .slice Ax E E] 34) none) (fun r e => by cases e)), i5.alloc (.cells #[.int .i64 (F + (N' : Int)), .slice Ax E E] 34), i6.alloc (.cells #[.int .i64 (F + (N' : Int)), .slice Ax E E] 34), i7.alloc (.cells #[.int .i64 (F + (N' : Int)), .slice Ax E E] 34), i8.alloc (.cells #[.int .i64 (F + (N' : Int)), .slice Ax E E] 34)⟩)
    have hzT : (W.alloc (.cells #[.int .i64 (F + (N' : Int)), .slice Ax E E] 34)).heap.size = W.heap.size + 1 := by simp
    have mo := KeepsOthers.alloc W (.cells #[.int .i64 (F + (N' : Int)), .slice Ax E E] 34)
    have mb := hBW.alloc (by omega) (.cells #[.int .i64 (F + (N' : Int)), .slice Ax E E] 34)
    have H7 := Lib.hid i7
    have H8 := Lib.hid i8
    clear hsrc hWT m1 i2 i4 i6 i7 i8 hBW
    gi_wp2_with (gi_at_builtin; refine wpListIn_snocK (K := 2) (by decide) HI.out.2.1 (A := ⟨W.heap.size, 0, none⟩) (vs := [.int .i64 (F + (N' : Int)), .slice Ax E E]) rfl HSR.out (by simp [Value.oneCell']) Try.underlying26 info_Generation rfl (by unfold maxLen; omega) (by omega) rfl _ _ rfl rfl rfl ?_; intro g5 cap5 w5 k5 p5; have q1 := p5.box HI.out.1 (by omega); have hf5 := q1.frozen; have hc5 := q1.cell)
    obtain ⟨-, m2, m4, m5, m6, m7, m8⟩ := HI.out
    generalize W.alloc (.cells #[.int .i64 (F + (N' : Int)), .slice Ax E E] 34) = w4 at *
    have z5 := p5.size
    have q2 := (k5.lo (l' := W1.heap.size) (by rcases p5 with ⟨_, h1, _⟩ | ⟨h1, _⟩ <;> omega)).lt
    have q4 := k5.solid (Nat.succ_pos _)
    have q5 := p5.box m5 (by omega)
    have q6 := m6.mv p5.mv (by omega)
    have q7 := p5.box m7 (by omega)
    have q8 := p5.box m8 (by omega)
    have qo := mo.trans (p5.others m4)
    have qb := mb.trans (p5.below (by omega) (by omega))
    obtain ⟨t1, tm⟩ := box_set q1 (.slice (some ⟨g5, 0, none⟩) (N' + 1) cap5)
    have t2 := (q2.mv tm (.inr (by omega)))
    have t4 := t2.solid (Nat.succ_pos _)
    have t5 := box_mv q5 tm (by omega)
    have t6 := q6.mv tm (by omega)
    have t7 := box_mv q7 tm (by omega)
    have t8 := box_mv q8 tm (by omega)
    have to := qo.trans (KeepsOthers.setCell w5 ⟨w.heap.size + 1 + 1, 0, none⟩ (.slice (some ⟨g5, 0, none⟩) (N' + 1) cap5))
    have tb := qb.trans (tm.below (by omega) (by omega))
    have tz : (w5.setCell ⟨w.heap.size + 1 + 1, 0, none⟩ (.slice (some ⟨g5, 0, none⟩) (N' + 1) cap5)).heap.size = w5.heap.size := by simp [World.setCell]
    have t2' := t2.lt
    rw [← HCS.out] at t2'
    exact ⟨to.from _, ⟨t7.trans H7.out.symm, t8.trans H8.out.symm⟩, ⟨⟨_, _, _, t1, t2', t4, t5, t6, t7, t8, by omega⟩, tb⟩⟩
  case done =>
    rintro Dd zs W hD rfl ⟨⟨ad', N', cap', i1, i2, i4, i5, i6, i7, i8, i9⟩, hBW⟩ hK
    have hc := i1.cell
    have kc9 : Kc W (W.putObj Dd (.deferred none)) := kc_of (grownBy_putObj' W Dd (.deferred none)) (fun r e => by cases e; exact ⟨_, hK, rfl⟩)
    have r9 := i2.kc kc9
    have n9 := i6.kc kc9
    have hb9 := hBW.trans (belowK_b (w := w) (Nat.le_refl _) W Dd _ (.deferred none) (by omega) hK rfl rfl)
    clear i2 i6
    gi_wp2
    refine ⟨by simp, .inl ⟨_, _, rfl, run_takeDeferred hK, ?_⟩⟩
    refine ⟨_, results_tmp rfl _ _ _, _, rfl, ?_, hb9⟩
    rw [hmy]
    have hN := r9.len
    rw [countOn_len, List.length_finRange] at hN
    have hzz : (W.putObj Dd (.deferred none)).heap.size = W.heap.size := by simp
    by_cases hC0 : 0 < cuts K m
    · obtain ⟨g, rfl, _, _⟩ := r9.pos (by omega)
      obtain ⟨A, rfl⟩ : ∃ A, adS = some A := by
        cases adS with
        | none => (have := hmn rfl; omega)
        | some A => exact ⟨A, rfl⟩
      exact own_parts (n9.mono (by omega) (Nat.le_refl _)) (by omega) (by unfold maxLen; omega) (fun j hj => (cuts_lt (by omega)).1 hj) (fun j hj => fits_i64.2 (by omega)) (fun j => rfl) ((r9.lo (l' := y1.heap.size) (by omega)).mono (Nat.le_of_eq hzz.symm)) (by omega) (by omega) hC0
    · have h0 : cuts K m = 0 := by omega
      rw [h0]
      obtain rfl : N' = 0 := by omega
      rw [h0] at r9
      exact ⟨[], [], ⟨ad', 0, cap', rfl, rfl, Nat.zero_le _, r9.big, r9.sl.nil, fun a e => (by cases e), [], [], rfl, rfl, rfl, rfl, fun j x hx => (by simp at hx)⟩, List.nodup_nil, by simp⟩
  case stop =>
    rintro Dd c pre W _ _ h _
    exact h.elim
end Go.Proofs.Ytkppkbafoeblhaa.GenI

