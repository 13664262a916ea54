/-
  A region that draws its order, in the body of a range over a function (a round): walked as one outside of a round. No program.
  Vectors, of the program: valid vectors, the leading index, unit vectors, equality.
  slices.Concat of slices of integers, and slices.Grow of the nil slice: the library's own text walked.
-/
import Derived.RangeFuncBox
import Derived.OwnWalkIn
import Derived.RangeFuncCalls
import Derived.Deep.RegionHeld3
import Derived.Test.YtlgmiojlpnoiaaaProg
import Derived.Test.YtlgmiojlpnoiaaaGC
import Derived.Lib.AppendZeros
namespace Go.Proofs.Ytlgmiojlpnoiaaa.Round
open Go.RowKit

variable {P : Program} {ops : Array Oper} {Q : Exit → Act → World → Prop} {l n : Nat}

def plain (o : Oper) : Bool := match o.op with | .defer _ => false | _ => true
theorem plain_op {o : Oper} (h : plain o = true) : ∀ c, o.op ≠ .defer c := by
  intro c hc; unfold plain at h; rw [hc] at h; cases h

theorem op_round {o : Oper} {a : Act} {w : World} {K : Act → World → Prop} (hp : plain o = true) (h : o.wp P a w K Q) : o.wpIn (Fence.wide.inRound l) n P a w K Q := by
  unfold Oper.wpIn
  refine ⟨fun _ _ => trivial, ?_⟩
  rw [show (Fence.wide.inRound l).round = some l from rfl, Oper.semAt_some l _ _ (plain_op hp)]
  unfold Oper.wp at h
  generalize (execOp a.eval o).run P w = r at *
  cases r with
  | ok x w' =>
    cases x with
    | value v => exact h
    | skip => exact h
    | «defer» d => exact h
    | enter f args => exact ⟨fun hd => (by cases hd), CallsIn.inRound l (callsIn_wide.2 h)⟩
    | row r args => exact ⟨fun hd => (by cases hd), fun c cs _ => let ⟨v, w', q, s⟩ := h c cs; ⟨v, w', q, stepsIn_wide.2 s⟩⟩
    | _ => exact h.elim
  | halt x w' =>
    cases x <;> exact h

theorem wpOp_round {i : Nat} {a : Act} {w : World} {K : Act → World → Prop} (hp : ops.all plain = true) (hQ : ∀ a w, ¬ Q .outgrown a w) (h : wpOp P ops Q i K a w) : wpOpIn (Fence.wide.inRound l) n P ops Q i K a w := by
  unfold wpOp at h
  unfold wpOpIn
  cases ho : ops[i]? with
  | none => rw [ho] at h; exact h
  | some o =>
    rw [ho] at h
    have hpo : plain o = true := by
      rw [Array.all_eq_true] at hp
      obtain ⟨hi, rfl⟩ := Array.getElem?_eq_some_iff.1 ho
      exact hp i hi
    dsimp only at h ⊢
    split
    · rename_i hw
      rw [if_pos hw] at h
      rcases h with h | ⟨_, a', w', h⟩
      · exact op_round hpo h
      · exact (hQ _ _ h).elim
    · rename_i hw
      rw [if_neg hw] at h
      exact ⟨fun _ _ => trivial, h⟩

theorem wpAny_round {md : Region.Mode} (hp : ops.all plain = true) (hQ : ∀ a w, ¬ Q .outgrown a w) : ∀ (fuel : Nat) (listed : Array Bool) (a : Act) (w : World), wpAny P md ops Q fuel listed a w → wpAnyIn (Fence.wide.inRound l) n P md ops Q fuel listed a w
  | 0, _, _, _, h => h
  | fuel + 1, _, _, _, h => ⟨h.1, fun i hi => wpOpIn_mono (fun a' w' h' => wpAny_round hp hQ fuel _ a' w' h') (wpOp_round hp hQ (h.2 i hi))⟩

/-- Its beginning, as the walk meets it. -/
theorem wanted_wp {o : Oper} {a : Act} {w : World} {K : Act → World → Prop} {E : Prop} (hg : o.guard = none) (h : o.wp P a w K Q) : if Region.wanted o (yielded ops a.tmps) = true then Oper.wp P o a w K Q else E := by
  rw [if_pos (by simp [Region.wanted, hg])]; exact h
theorem wpIn_region_here {id : Nat} {a : Act} {w : World} (hm : P.follows .mixedOrders = true) (hp : ops.all plain = true) (hQ : ∀ a w, ¬ Q .outgrown a w)
    (h : wpAny P .any ops Q ops.size (Array.replicate ops.size false) a w.drew) : (Code.region id ops true).wpIn (Fence.wide.inRound l) n P Q a w :=
  wpIn_region_any hm (wpAny_round hp hQ _ _ _ _ h)
theorem wpIn_region_held {S : World → Prop} {id : Nat} {a : Act} {w : World} (hm : P.follows .mixedOrders = true) (hp : ops.all plain = true) (hQ : ∀ a w, ¬ Q .outgrown a w)
    (h : wpAnyH P .any ops Q S ops.size (Array.replicate ops.size false) a w.drew) : (Code.region id ops true).wpIn (Fence.wide.inRound l) n P Q a w :=
  wpIn_region_any hm (wpAny_round hp hQ _ _ _ _ (wpAny_of_held _ _ _ _ h))
/-- A piece of code that goes on only. -/
theorem wp_safe {c : Code} {a : Act} {w : World} {K : Act → World → Prop} (h : c.wp P (Exit.then K (fun _ _ _ => False)) a w) : c.wp P (Exit.then K Q) a w :=
  wp_mono h fun e _ _ h => by cases e <;> first | exact h | exact h.elim
end Go.Proofs.Ytlgmiojlpnoiaaa.Round
namespace Go.Proofs.Ytlgmiojlpnoiaaa.VecI
open Go.ChangeShapes Go.WideShapes Go.ChangeAt Go.RowKit
open Go.Proofs.Ytlgmiojlpnoiaaa.Seq Go.Proofs.Ytlgmiojlpnoiaaa.Help Go.Proofs.Ytlgmiojlpnoiaaa.Field Go.Proofs.Ytlgmiojlpnoiaaa.FieldW Go.Proofs.Ytlgmiojlpnoiaaa.Vec Go.Proofs.Ytlgmiojlpnoiaaa.VecW Go.Proofs.Ytlgmiojlpnoiaaa.VecOps

theorem isVec_long {xs : List Int} (h : 40 < xs.length) : isVec xs = false := by
  unfold isVec
  rw [decide_eq_false (by omega), Bool.and_false]
theorem isVec_is (w : World) {l h : Nat} {ad : Option Addr} {n cap : Nat} {xs : List Int} (s : Sl w l h .i64 ad n cap xs) :
    Calls Try.prog 69 #[.slice ad n cap] w (IsB (isVec xs) w) := by
  have hbig := s.big
  have hcap := s.le
  unfold maxLen at hbig
  by_cases hl : 40 < n
  · have HE := Lib.hid (isVec_long (by rw [s.len]; exact hl))
    rw [HE.out]
    go_enter Try.func69, Try.ntmps69
    go_wp2
    go_ret
    exact ⟨rfl, rfl⟩
  go_enter Try.func69, Try.ntmps69
  go_wp2
  go_loop [10] (fun i => ∃ j : Nat, j ≤ n ∧ i = .int .i64 j ∧ Hid (∀ x ∈ xs.take j, isEl x = true)) (fun i => n - (intOf i).toNat)
  case atStart => exact ⟨0, Nat.zero_le _, rfl, fun x hx => by simp at hx⟩
  case round =>
    obtain ⟨j, hj, rfl, HA⟩ := hrel
    by_cases hlt : j < n
    · obtain ⟨a, x, rfl, hx, hc⟩ := s.at_ hlt
      have hg := Lib.hid hx.get
      have hE := impl_el w x
      by_cases hb : isEl x = true
      · rw [hb] at hE
        have HE := Lib.hid hE
        have HB := Lib.hid hb
        clear hE hb
        go_wp2_with fail
        go_at_call 75
        refine HE.out.mono ?_
        rintro e w' ⟨rfl, rfl⟩
        go_wp2
        go_round
        case rel => exact ⟨j + 1, by omega, by go_num, all_more hg.out HA.out HB.out⟩
        case measure => simp [intOf]; omega
      · rw [el_no hb] at hE
        have HE := Lib.hid hE
        have HB := Lib.hid (isVec_no_at hg.out (el_no hb))
        clear hE hb
        rw [HB.out]
        go_wp2_with fail
        go_at_call 75
        refine HE.out.mono ?_
        rintro e w' ⟨rfl, rfl⟩
        go_wp2
        go_ret
        exact ⟨rfl, rfl⟩
    · obtain rfl : j = n := by omega
      have HE := Lib.hid (isVec_all s.len HA.out)
      go_wp2
      go_ret
      exact ⟨by rw [HE.out]; simp; omega, rfl⟩
theorem isVec : IsVecOp := fun w _ _ _ _ _ _ s _ => (isVec_is w s).mono isB_below



end Go.Proofs.Ytlgmiojlpnoiaaa.VecI
namespace Go.Proofs.Ytlgmiojlpnoiaaa.Concat
open Go.ChangeShapes Go.WideShapes Go.ChangeAt Go.RowKit
open Go.Proofs.Ytlgmiojlpnoiaaa.Seq Go.Proofs.Ytlgmiojlpnoiaaa.Help

/-- An own slice without elements, with room. -/
theorem row_room (w : World) (e : TypeId) (cur : Array Value) (cap : Nat) (hm : cap ≤ maxLen) (hs : cur.size = cap) :
    Row (w.drew.alloc (.cells cur e)) w.heap.size (w.drew.alloc (.cells cur e)).heap.size .i64 e (some ⟨w.heap.size, 0, none⟩) 0 cap [] :=
  ⟨rfl, Nat.zero_le _, hm, by simp, .inr ⟨w.heap.size, rfl, Nat.le_refl _, by rw [World.size_alloc]; exact Nat.lt_succ_self _, by
    have := World.ownsRow_made (base := w.heap.size) (e := e) (size := 1) w.drew cur cap (Nat.le_refl _) hm (by omega)
    exact this⟩⟩
/-- 'append([]int(nil), make([]int, n)...)', as the walk meets it. -/
theorem wpList_zeros {P : Program} {w : World} {ops : Array Oper} {rest : List Oper} {o : Oper} {a : Act} {Q : Exit → Act → World → Prop} {e t tn : TypeId} {kn kq : IntKind} (ht : P.underlying t = some (.slice e)) (htn : P.underlying tn = some (.int kn)) {z : Value} {bytes : Nat}
    (hinfo : (P.info? e).map (fun i => (i.zero, i.size, i.bytes)) = some (some z, 1, bytes)) (hzs : z.cells.size = 1) {n : Nat} (h0 : 0 < n) (hn : n ≤ maxLen) (hby : n * bytes ≤ 281474976710656)
    (hg : o.guard = none) (p q : Operand) (hop : o.op = Op.call { callee := Callee.builtin Builtin.append, args := #[p, q], argTypes := #[t, tn] }) (hp : a.eval p = .slice none 0 0) (hq : a.eval q = .int kq (n : Int))
    (hK : ∀ cap w', n ≤ cap → cap ≤ maxLen → Row w' w.heap.size w'.heap.size .i64 e (some ⟨w.heap.size, 0, none⟩) 0 cap [] → Below w.heap.size w w' → wpList P ops Q rest (a.put o.dst (.slice (some ⟨w.heap.size, 0, none⟩) n cap)) w') : wpList P ops Q (o :: rest) a w := by
  obtain ⟨i, hi, hz, hs, hb⟩ := info_parts hinfo
  have hn9 : (n : Int) ≤ 9223372036854775807 := by unfold maxLen at hn; omega
  have hrun := Lib.run_append_nil_zeros w t tn o.type e i z kq kn ht htn hi hz n h0 (by omega) hn9 (by rw [hb]; exact hby)
  have hge := grownCap_ge w n 0 e
  have hle := grownCap_le_maxLen w n 0 e hn
  refine Lib.wpList_append_run w hg p q t tn hop _ _ hp hq _ _ hrun (hK _ _ hge hle (row_room w e _ _ hle ?_) ((Below.refl _ _).drew.alloc (Nat.le_refl _) _))
  rw [Array.size_append, size_zeroCells, size_zeroCells, hzs]; omega
set_option maxRecDepth 100000 in
theorem grow (w : World) (k : Nat) (hk : k ≤ 1099511627776) :
    Calls Try.prog 77 #[.slice none 0 0, .int .i64 k] w fun e w' => ∃ ad cap, e = .returned (.slice ad 0 cap) ∧ Row w' w.heap.size w'.heap.size .i64 3 ad 0 cap [] ∧ Below w.heap.size w w' := by
  rcases Nat.eq_zero_or_pos k with h0 | h0
  · subst h0
    go_enter Try.func77, Try.ntmps77
    go_wp2
    go_ret
    exact ⟨_, _, rfl, Row.nil _ _ _ _ _ _, Below.refl _ _⟩
  · have hk0 : ¬ ((k : Int) < 0) := by omega
    go_enter Try.func77, Try.ntmps77
    go_wp2_with (at_builtin; refine wpList_zeros (n := k) Try.underlying24 Try.underlying3 info_int rfl h0 (by unfold maxLen; omega) (by omega) rfl _ _ rfl rfl (by first | rfl | simp) ?_; intro cap4 w4 hc4 hm4 r4 b4)
    unfold maxLen at hm4
    have HR := Lib.hid r4
    clear r4
    go_wp2
    go_ret
    exact ⟨_, _, rfl, HR.out, b4⟩
theorem flat_more {xss : List (List Int)} {xs : List Int} {j : Nat} (h : xss[j]? = some xs) : (xss.take (j + 1)).flatten = (xss.take j).flatten ++ xs := by
  rw [List.take_add_one, h]; simp
theorem flat_len (xss : List (List Int)) : xss.flatten.length = sumLen xss := by unfold sumLen; rw [List.length_flatten]
set_option maxRecDepth 100000 in
theorem concat (w : World) {l h : Nat} {ad : Option Addr} {n cap : Nat} {xss : List (List Int)} (s : Sls w l h ad n cap xss) (hS : sumLen xss ≤ 1099511627776) :
    Calls Try.prog 71 #[.slice ad n cap] w (Gives .i64 3 xss.flatten w) := by
  have hL := Lib.hid s.len
  have hcap := s.le
  have hbig := s.big
  unfold maxLen at hbig
  have HS := Lib.hid hS
  go_enter Try.func71, Try.ntmps71
  go_wp2
  go_loopw [3, 11] (fun z i wr => ∃ j K : Nat, j ≤ n ∧ z = .int .i64 K ∧ i = .int .i64 j ∧ Hid (K = sumLen (xss.take j)) ∧ w = wr) (fun _ i _ => n - (intOf i).toNat)
  case atStart => exact ⟨0, 0, Nat.zero_le _, rfl, rfl, rfl, rfl⟩
  case round =>
    obtain ⟨j, K, hj, rfl, rfl, HK, rfl⟩ := hrel
    have hK9 : K ≤ 1099511627776 := by have := sumLen_le xss j; rw [HK.out]; omega
    by_cases hlt : j < n
    · obtain ⟨a, ad2, n2, cap2, xs, rfl, hx, hc⟩ := s.at_ hlt
      have hK2 : Hid (K + n2 = sumLen (xss.take (j + 1))) := by show _ = _; rw [sumLen_take hx.get, ← HK.out, hx.sl.len]
      have hK8 : K + n2 ≤ 1099511627776 := by have := sumLen_le xss (j + 1); rw [hK2.out]; omega
      have hneg : ¬ ((K : Int) + (n2 : Int) < 0) := by omega
      clear hx HK
      go_wp2
      go_roundw
      case rel => exact ⟨j + 1, K + n2, hlt, by go_num, by go_num, hK2.out, by first | rfl | trivial⟩
      case measure => simp [intOf]; omega
    · obtain rfl : j = n := by omega
      have HF : Hid (K = sumLen xss) := by have := HK.out; rw [List.take_of_length_le (Nat.le_of_eq hL.out)] at this; exact this
      clear HK
      go_wp2_with fail
      go_at_call 77
      refine (grow w K hK9).mono ?_
      rintro e w2 ⟨ad6, cap6, rfl, r6, b6⟩
      go_wp2
      go_loopw [6, 27] (fun z i wr => ∃ (t N cap' : Nat) (ad' : Option Addr), t ≤ j ∧ z = .slice ad' N cap' ∧ i = .int .i64 t ∧ Row wr w.heap.size wr.heap.size .i64 3 ad' N cap' (xss.take t).flatten ∧ Below w.heap.size w wr) (fun _ i _ => j - (intOf i).toNat)
      case atStart => exact ⟨0, 0, cap6, ad6, Nat.zero_le _, rfl, rfl, by simpa using r6, b6⟩
      case round =>
        obtain ⟨t, N, cap', ad', ht, rfl, rfl, hr, hb⟩ := hrel
        have zb := hb.size
        have hN : N = sumLen (xss.take t) := by rw [← hr.len, flat_len]
        by_cases hlt2 : t < j
        · obtain ⟨a, ad2, n2, cap2, xs, rfl, hx, hc⟩ := (s.below hb (.inr (Nat.le_refl _))).at_ hlt2
          have h8 := sumLen_le xss (t + 1)
          rw [sumLen_take hx.get, ← hN, hx.sl.len] at h8
          have HT := Lib.hid (flat_more hx.get)
          have hs2 := hx.sl
          clear hx hN
          go_wp2_with (at_builtin; refine wpList_app hr hs2 Try.underlying24 info_int (by unfold maxLen; omega) (by omega) zb rfl _ _ rfl rfl rfl ?_; intro ad4 cap4 w4 r4 m4)
          have hb4 := hb.trans (m4.below (Nat.le_refl _) zb)
          have HR4 := Lib.hid (HT.out ▸ r4)
          clear r4 hr m4
          go_wp2
          go_roundw
          case rel => exact ⟨t + 1, N + n2, cap4, ad4, hlt2, rfl, by go_num, HR4.out, hb4⟩
          case measure => simp [intOf]; omega
        · obtain rfl : t = j := by omega
          rw [List.take_of_length_le (Nat.le_of_eq hL.out)] at hr
          have HR := Lib.hid hr
          clear hr hN
          go_wp2
          go_ret
          exact ⟨_, _, _, rfl, HR.out, hb⟩
end Go.Proofs.Ytlgmiojlpnoiaaa.Concat
