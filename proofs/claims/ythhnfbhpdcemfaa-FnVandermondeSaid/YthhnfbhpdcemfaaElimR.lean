/-
  Elimination, of the model: the walk of l7Reduce.
-/
import Derived.Test.YthhnfbhpdcemfaaElimW
import Derived.Test.YthhnfbhpdcemfaaDrawn
namespace Go.Proofs.Ythhnfbhpdcemfaa.RedW
open Go.ChangeShapes Go.WideShapes Go.ChangeAt Go.RowKit
open Go.Proofs.Ythhnfbhpdcemfaa.Drawn Go.Proofs.Ythhnfbhpdcemfaa.Seq Go.Proofs.Ythhnfbhpdcemfaa.Help Go.Proofs.Ythhnfbhpdcemfaa.Field Go.Proofs.Ythhnfbhpdcemfaa.FieldW Go.Proofs.Ythhnfbhpdcemfaa.Vec Go.Proofs.Ythhnfbhpdcemfaa.VecW Go.Proofs.Ythhnfbhpdcemfaa.Mat Go.Proofs.Ythhnfbhpdcemfaa.MatW Go.Proofs.Ythhnfbhpdcemfaa.MatP Go.Proofs.Ythhnfbhpdcemfaa.Lin Go.Proofs.Ythhnfbhpdcemfaa.Rref

theorem sls_take {w : World} {l h : Nat} {ad : Option Addr} {n cap A : Nat} {xss : List (List Int)} (s : Sls w l h ad n cap xss) (hA : A ≤ n) : Sls w l h ad A cap (xss.take A) := by
  refine ⟨by rw [List.length_take, s.len]; omega, Nat.le_trans hA s.le, s.big, s.nil, fun j xs hx => ?_⟩
  rw [List.getElem?_take] at hx
  split at hx
  · exact s.cells j xs hx
  · cases hx
/-- What elimination hands back: the first rows of an eliminated matrix with the same span. -/
def Reduced (m : List (List Int)) (K0 : Nat) (w : World) (e : Ending) (w' : World) : Prop :=
  ∃ (A : Nat) (M : Nat → V) (p : Nat → Nat), Elim m.length A K0 M p ∧ (∀ l, l < m.length → Span m.length (ent m) (M l)) ∧ (∀ l, l < m.length → Span m.length M (ent m l)) ∧ Reads2 (mk A (colsOf m) M) w e w'
set_option maxRecDepth 100000 in
set_option maxHeartbeats 1600000 in
theorem spec_reduce (w : World) {l h : Nat} {ad : Option Addr} {n cap : Nat} {m : List (List Int)} (s : Sls w l h ad n cap m) (hm : isMat m = true) (K0 : Nat) (hK : K0 ≤ colsOf m) :
    Calls Try.prog 84 #[.slice ad n cap, .int .i64 K0] w (Reduced m K0 w) := by
  have hL := s.len
  have hn40 := (isMat_iff.1 hm).2
  have hc40 := colsOf_le hm
  have hsh : ∀ xs ∈ m, xs.length ≤ 17592186044416 := fun xs hx => by have := (isVec_iff.1 ((isMat_iff.1 hm).1 xs hx).1).2; omega
  rw [hL] at hn40
  have HC := Lib.hid (spec_copy w s (by omega) hsh)
  have HM := Lib.hid (mk_ent hm)
  clear hsh
  unfold Reduced
  rw [hL] at HM ⊢
  obtain ⟨c, hc⟩ : ∃ c, colsOf m = c := ⟨_, rfl⟩
  rw [hc] at HM hK hc40 ⊢
  generalize hM0 : ent m = M0 at *
  clear hc hM0 hm s hL
  go_enter Try.func84, Try.ntmps84
  go_wp2_with fail
  go_at_call 96
  refine HC.out.mono ?_
  rintro e w1 ⟨ad1, n1, cap1, us, rfl, r1, b1⟩
  have hr := HM.out ▸ r1
  obtain rfl : n1 = n := by rw [← hr.len, mk_len]
  have z1 := b1.size
  clear HC r1
  rcases Nat.eq_zero_or_pos n1 with hn0 | hn0
  · subst hn0
    have HS := Lib.hid (sls_take (A := 0) hr.sls (Nat.le_refl _))
    have hle9 := hr.out.le
    have hbg9 := hr.out.big
    unfold maxLen at hbg9
    clear HM hr
    go_wp2
    go_loopw [6, 7] (fun a k wr => a = .int .i64 (0 : Nat) ∧ k = .int .i64 (0 : Nat) ∧ wr = w1) (fun _ _ _ => 0)
    case atStart => exact ⟨rfl, rfl, rfl⟩
    case round =>
      obtain ⟨rfl, rfl, rfl⟩ := hrel
      by_cases hK0 : K0 = 0
      · subst hK0
        go_wp2
        go_ret
        exact ⟨0, M0, fun _ => 0, Elim.start _ _ _, span_self _ _, span_self _ _, _, _, _, rfl, HS.out.mono (Nat.le_refl _) (Nat.le_refl _), b1⟩
      · have hK1 : 0 < K0 := by omega
        go_wp2
        go_ret
        exact ⟨0, M0, fun _ => 0, full (Elim.start _ _ _) (Nat.zero_le _), span_self _ _, span_self _ _, _, _, _, rfl, HS.out.mono (Nat.le_refl _) (Nat.le_refl _), b1⟩
  obtain ⟨g, rfl, hr1⟩ := Rws.of hr hn0
  clear HM hr
  go_wp2
  go_loopw [6, 7] (fun a k wr => ∃ (A K : Nat) (M : Nat → V) (p : Nat → Nat) (vs : List Value), A ≤ n1 ∧ K ≤ K0 ∧ a = .int .i64 A ∧ k = .int .i64 K ∧ Rws wr w.heap.size wr.heap.size 3 30 g n1 cap1 vs (mk n1 c M) ∧
    Hid (Elim n1 A K M p ∧ (∀ l, l < n1 → Span n1 M0 (M l)) ∧ ∀ l, l < n1 → Span n1 M (M0 l)) ∧ Below w.heap.size w wr) (fun _ k _ => K0 - (intOf k).toNat)
  case atStart => exact ⟨0, 0, M0, fun _ => 0, us, Nat.zero_le _, Nat.zero_le _, rfl, rfl, hr1, ⟨Elim.start _ _ _, span_self _ _, span_self _ _⟩, b1⟩
  case round =>
    obtain ⟨A, K, M, p, vs, hA, hK', rfl, rfl, hr, HE, hb⟩ := hrel
    have zb := hb.size
    by_cases hKK : K = K0
    · subst hKK
      have HS := Lib.hid (sls_take hr.sls hA)
      have hle9 := hr.out.le
      have hbg9 := hr.out.big
      unfold maxLen at hbg9
      have HF := Lib.hid (HE.out)
      clear hr HE
      go_wp2
      go_ret
      exact ⟨A, M, p, HF.out.1, HF.out.2.1, HF.out.2.2, _, _, _, rfl, by rw [← mk_take M hA]; exact HS.out.mono (Nat.le_refl _) (Nat.le_refl _), hb⟩
    have hK1 : K < K0 := by omega
    by_cases hAn : A = n1
    · subst hAn
      have HS := Lib.hid (sls_take hr.sls hA)
      have hle9 := hr.out.le
      have hbg9 := hr.out.big
      unfold maxLen at hbg9
      have HF := Lib.hid ((And.intro (full HE.out.1 hK') HE.out.2))
      clear hr HE
      go_wp2
      go_ret
      exact ⟨A, M, p, HF.out.1, HF.out.2.1, HF.out.2.2, _, _, _, rfl, by rw [← mk_take M hA]; exact HS.out.mono (Nat.le_refl _) (Nat.le_refl _), hb⟩
    have hA1 : A < n1 := by omega
    go_wp2
    go_loop [8] (fun i => ∃ q : Nat, A ≤ q ∧ q ≤ n1 ∧ i = .int .i64 q ∧ Hid (∀ l, A ≤ l → l < q → M l K = 0)) (fun i => n1 - (intOf i).toNat)
    case atStart => exact ⟨A, Nat.le_refl _, hA, rfl, fun l h1 h2 => by omega⟩
    case round =>
      obtain ⟨q, hq1, hq2, rfl, HZ⟩ := hrel
      by_cases hqn : q = n1
      · subst hqn
        have HN := Lib.hid (HE.out.1.none (fun l h1 h2 => HZ.out l h1 h2))
        have HE2 := Lib.hid (And.intro HN.out HE.out.2)
        clear HZ HE HN
        go_wp2
        go_roundw
        case rel => exact ⟨A, K + 1, M, p, vs, hA, hK1, rfl, by go_num, hr, HE2.out, hb⟩
        case measure => simp [intOf]; omega
      have hqn1 : q < n1 := by omega
      obtain ⟨adq, nq, capq, xq, huq, hxq, sq, oq, hcq, hfq⟩ := hr.at_ hqn1
      obtain rfl : vec c (M q) = xq := Option.some.inj ((mk_get M hqn1).symm.trans hxq)
      have hnq : nq = c := by rw [← sq.len, vec_len]
      subst hnq
      obtain ⟨aq, xk, e1, hxk, hck⟩ := sq.at_ (j := K) (by omega)
      obtain rfl : em (M q K) = xk := Option.some.inj ((vec_get (M q) (by omega)).symm.trans hxk.get)
      subst e1
      have hle := sq.le
      have hbg := sq.big
      unfold maxLen at hbg
      have hle2 := hr.out.le
      have hbg2 := hr.out.big
      unfold maxLen at hbg2
      by_cases hz : M q K = 0
      · have hz2 : em (M q K) = 0 := by rw [hz]; rfl
        rw [hz2] at hck
        have HZ2 := Lib.hid (show ∀ l, A ≤ l → l < q + 1 → M l K = 0 from fun l h1 h2 => by
          rcases Nat.lt_or_eq_of_le (Nat.le_of_lt_succ h2) with h3 | rfl
          · exact HZ.out l h1 h3
          · exact hz)
        clear hxk hz HZ
        go_wp2
        go_round
        case rel => exact ⟨q + 1, by omega, by omega, by go_num, HZ2.out⟩
        case measure => simp [intOf]; omega
      have hz2 : (em (M q K) == 0) = false := by simp; exact fun e => hz (em_inj e)
      have hqn2 : ((q : Int) == (n1 : Int)) = false := by simp; omega
      obtain ⟨adA, nA, capA, xA, huA, hxA, sA, oA, hcA, hfA⟩ := hr.at_ hA1
      obtain rfl : vec nq (M A) = xA := Option.some.inj ((mk_get M hA1).symm.trans hxA)
      have hgp := hr.gpos hn0
      have hp1 := hr.put hqn1 oA (fun b hb => hr.away A _ b huA hb)
      have oq1 := OwnInts.keep (g := g) (j := q) oq (fun b hb => hr.away q _ b huq hb) (.slice adA nA capA)
      rw [mk_set M (M A) hqn1] at hp1
      obtain ⟨aq', xk', e1, hxk', hck1⟩ := (OwnInts.sl oq1).at_ (j := K) (by omega)
      obtain rfl : em (M q K) = xk' := Option.some.inj ((vec_get (M q) (by omega)).symm.trans hxk'.get)
      obtain rfl := Option.some.inj e1
      have HP1 := Lib.hid hp1
      have OQ1 := Lib.hid oq1
      clear hp1 oq1 oq oA sA hxA hxq sq hxk hr
      go_wp2_with fail
      go_at_call 97
      refine (spec_inv _ _).mono ?_
      rintro e w' ⟨rfl, rfl⟩
      have hS := spec_scale _ (OwnInts.sl OQ1.out) (Field.inv (em (M q K)))
      rw [pivot_row (M q) hc40 hz] at hS
      have HS := Lib.hid hS
      clear hS
      go_wp2_with fail
      go_at_call 88
      refine HS.out.mono ?_
      rintro e w5 ⟨ad5, n5, cap5, rfl, r5, b5⟩
      have z5 := b5.size
      have zm := HP1.out.2.size
      have hl5 : n5 = nq := by rw [← r5.len, vec_len]
      subst hl5
      have hR := (HP1.out.1.below b5 (.inr (Nat.le_refl _))).mono (h' := w5.heap.size) (by omega)
      have hp2 := hR.put hA1 ((OwnInts.of r5).lo (by omega)) (fun b hb => by have := ((OwnInts.of r5).block hb).1; omega)
      rw [mk_set _ _ hA1] at hp2
      obtain ⟨u0, _, hc0, hf0⟩ := hR.out.there hA1
      rw [show mk n1 n5 (fun l => if l = A then (fun j => M q j * invF (M q K)) else (fun l => if l = q then M A else M l) l) = mk n1 n5 (part M A q K 0) from mk_congr fun i j _ _ => by
        rw [part_0]
        by_cases h : i = A
        · rw [if_pos h, if_pos h, cleared_a]
        · rw [if_neg h, if_neg h]] at hp2
      have hb5 : Below w.heap.size w w5 := (hb.trans (HP1.out.2.below (Nat.le_refl _) zb)).trans (b5.mono (by omega))
      have hb6 := hb5.trans (hp2.2.below (Nat.le_refl _) hb5.size)
      have HP2 := Lib.hid (hp2.1.mono hp2.2.size)
      have HB6 := Lib.hid hb6
      clear HS HP1 OQ1 hR hp2 r5 b5 hb5 hb6 hb
      go_wp2
      go_loopw [10] (fun i w2 => ∃ (I : Nat) (us2 : List Value), I ≤ n1 ∧ i = .int .i64 I ∧ Rws w2 w.heap.size w2.heap.size 3 30 g n1 cap1 us2 (mk n1 n5 (part M A q K I)) ∧ Below w.heap.size w w2) (fun i _ => n1 - (intOf i).toNat)
      case atStart => exact ⟨0, _, Nat.zero_le _, rfl, HP2.out, HB6.out⟩
      case round =>
        obtain ⟨I, us2, hI, rfl, hr2, hb2⟩ := hrel
        have zb2 := hb2.size
        by_cases hIn : I < n1
        case neg =>
          obtain rfl : I = n1 := by omega
          have HE2 := Lib.hid (show Elim I (A + 1) (K + 1) (cleared invF M A q K) (more p A K) ∧ (∀ l, l < I → Span I M0 (cleared invF M A q K l)) ∧ ∀ l, l < I → Span I (cleared invF M A q K) (M0 l) from
            ⟨HE.out.1.pivot invF invF_ok hq1 hqn1 hz, fun l hl => span_trans HE.out.2.1 (cleared_in invF M K hA1 hqn1 l hl), fun l hl => span_trans (in_cleared invF invF_ok M hA1 hqn1 hz) (HE.out.2.2 l hl)⟩)
          rw [mk_congr (g := cleared invF M A q K) fun i j hi _ => by rw [part_all hi]] at hr2
          have HR2 := Lib.hid hr2
          clear hr2
          go_wp2
          go_roundw
          case rel => exact ⟨A + 1, K + 1, _, _, us2, hA1, hK1, by go_num, by go_num, HR2.out, HE2.out, hb2⟩
          case measure => simp [intOf]; omega
        obtain ⟨adI, nI, capI, xI, huI, hxI, sI, oI, hcI, hfI⟩ := hr2.at_ hIn
        obtain rfl : vec n5 (part M A q K I I) = xI := Option.some.inj ((mk_get _ hIn).symm.trans hxI)
        have hnI : nI = n5 := by rw [← sI.len, vec_len]
        subst hnI
        have hle3 := hr2.out.le
        have hbg3 := hr2.out.big
        unfold maxLen at hbg3
        by_cases hIA : I = A
        · subst hIA
          have HM := Lib.hid (mk_congr (r := n1) (c := nI) (fun i j _ _ => by rw [part_same (.inl rfl)] : ∀ i j, i < n1 → j < nI → part M I q K (I + 1) i j = part M I q K I i j))
          clear hxI sI oI
          go_wp2
          go_roundw
          case rel => exact ⟨I + 1, us2, by omega, by go_num, HM.out ▸ hr2, hb2⟩
          case measure => simp [intOf]; omega
        have hIA2 : ((I : Int) != (A : Int)) = true := by simp; omega
        have hIA3 : ((I : Int) == (A : Int)) = false := by simp; omega
        obtain ⟨aI, xk2, e2, hxk2, hck2⟩ := sI.at_ (j := K) (by omega)
        obtain rfl : em (part M A q K I I K) = xk2 := Option.some.inj ((vec_get _ (by omega)).symm.trans hxk2.get)
        subst e2
        rw [part_own hIA] at *
        have hle4 := sI.le
        have hbg4 := sI.big
        unfold maxLen at hbg4
        by_cases hz3 : swapped M A q I K = 0
        · have hz4 : em (swapped M A q I K) = 0 := by rw [hz3]; rfl
          rw [hz4] at hck2
          have HM := Lib.hid (mk_congr (r := n1) (c := nI) (fun i j _ _ => by rw [part_same (.inr hz3)] : ∀ i j, i < n1 → j < nI → part M A q K (I + 1) i j = part M A q K I i j))
          clear hxI sI oI hxk2 hz3 hz4
          go_wp2
          go_roundw
          case rel => exact ⟨I + 1, us2, by omega, by go_num, HM.out ▸ hr2, hb2⟩
          case measure => simp [intOf]; omega
        have hz4 : (em (swapped M A q I K) == 0) = false := by simp; exact fun e => hz3 (em_inj e)
        obtain ⟨adP, nP, capP, xP, huP, hxP, sP, oP, hcP, hfP⟩ := hr2.at_ hA1
        obtain rfl : vec nI (part M A q K I A) = xP := Option.some.inj ((mk_get _ hA1).symm.trans hxP)
        rw [part_piv] at *
        have hS := spec_adds wr.drew (sI.drewN 1) (sP.drewN 1) (1019 - em (swapped M A q I K))
        rw [clear_row (swapped M A q I) _ hc40 hz3] at hS
        have HS := Lib.hid hS
        have hin := em_in (swapped M A q I K)
        have e19 : IntKind.i64.wrap (1019 - em (swapped M A q I K)) = 1019 - em (swapped M A q I K) := by rw [IntKind.wrap_i64]; omega
        have hrD : Rws wr.drew w.heap.size wr.heap.size 3 30 g n1 cap1 us2 (mk n1 nI (part M A q K I)) := hr2.drewN 1
        have hbD : Below w.heap.size w wr.drew := hb2.drew
        have hgp2 := hr2.gpos hn0
        have hKn : K < nI := by omega
        have HRD := Lib.hid hrD
        have HBD := Lib.hid hbD
        have c1 : wr.drew.cell? ⟨g, I, none⟩ = some (.slice (some aI) nI capI) := hcI
        have c2 : wr.drew.cell? ⟨g, A, none⟩ = some (.slice adP nP capP) := hcP
        have c3 : wr.drew.cell? (aI.add K) = some (.int .i64 (em (swapped M A q I K))) := hck2
        clear hS hrD hbD hr2 hb2 sI sP oI oP hxI hxP hxk2 HP2 HB6
        go_wp2
        refine wp_region_last (S := fun w' => w'.cell? ⟨g, I, none⟩ = some (.slice (some aI) nI capI) ∧ w'.cell? ⟨g, A, none⟩ = some (.slice adP nP capP) ∧ w'.cell? (aI.add K) = some (.int .i64 (em (swapped M A q I K)))) 20 (by kernel_rfl) (by kernel_rfl) rfl ?_
        have HH := Lib.hid (And.intro c1 (And.intro c2 c3))
        refine wpAnyH_take (i := 0) (oi := ⟨some 85, _, _, _, _, _⟩) (v := ?_) rfl (by kernel_rfl) (by kernel_rfl) (by kernel_rfl) (fun _ _ _ h => h) (Or.inl ⟨by rfl, ?_⟩) HH.out ?_
        rotate_left
        · intro wS hSw
          try dsimp only at hSw
          go_simp
          all_goals (with_reducible rfl)
        simp only [Act.put, List.setIfInBounds_toArray, List.set_cons_zero, List.set_cons_succ]
        refine wpAnyH_take (i := 1) (oi := ⟨some 86, _, _, _, _, _⟩) (v := ?_) rfl (by kernel_rfl) (by kernel_rfl) (by kernel_rfl) (fun _ _ _ h => h) (Or.inl ⟨by rfl, ?_⟩) HH.out ?_
        rotate_left
        · intro wS hSw
          try dsimp only at hSw
          go_simp
          all_goals (with_reducible rfl)
        simp only [Act.put, List.setIfInBounds_toArray, List.set_cons_zero, List.set_cons_succ]
        refine wpAnyH_take (i := 2) (oi := ⟨some 87, _, _, _, _, _⟩) (v := ?_) rfl (by kernel_rfl) (by kernel_rfl) (by kernel_rfl) (fun _ _ _ h => h) (Or.inl ⟨by rfl, ?_⟩) HH.out ?_
        rotate_left
        · intro wS hSw
          try dsimp only at hSw
          go_simp
          all_goals (with_reducible rfl)
        simp only [Act.put, List.setIfInBounds_toArray, List.set_cons_zero, List.set_cons_succ]
        refine wpAnyH_take (i := 3) (oi := ⟨some 88, _, _, _, _, _⟩) (v := ?_) rfl (by kernel_rfl) (by kernel_rfl) (by kernel_rfl) (fun _ _ _ h => h) (Or.inl ⟨by rfl, ?_⟩) HH.out ?_
        rotate_left
        · intro wS hSw
          try dsimp only at hSw
          go_simp
          all_goals (with_reducible rfl)
        simp only [Act.put, List.setIfInBounds_toArray, List.set_cons_zero, List.set_cons_succ]
        refine wpAnyH_take (i := 4) (oi := ⟨some 89, _, _, _, _, _⟩) (v := ?_) rfl (by kernel_rfl) (by kernel_rfl) (by kernel_rfl) (fun _ _ _ h => h) (Or.inl ⟨by rfl, ?_⟩) HH.out ?_
        rotate_left
        · intro wS hSw
          try dsimp only at hSw
          go_simp
          all_goals (with_reducible rfl)
        simp only [Act.put, List.setIfInBounds_toArray, List.set_cons_zero, List.set_cons_succ]
        refine wpAnyH_take (i := 5) (oi := ⟨some 90, _, _, _, _, _⟩) (v := ?_) rfl (by kernel_rfl) (by kernel_rfl) (by kernel_rfl) (fun _ _ _ h => h) (Or.inl ⟨by rfl, ?_⟩) HH.out ?_
        rotate_left
        · intro wS hSw
          try dsimp only at hSw
          go_simp
          all_goals (with_reducible rfl)
        simp only [Act.put, List.setIfInBounds_toArray, List.set_cons_zero, List.set_cons_succ]
        refine wpAnyH_take (i := 6) (oi := ⟨some 91, _, _, _, _, _⟩) (v := ?_) rfl (by kernel_rfl) (by kernel_rfl) (by kernel_rfl) (fun _ _ _ h => h) (Or.inl ⟨by rfl, ?_⟩) HH.out ?_
        rotate_left
        · intro wS hSw
          try dsimp only at hSw
          go_simp
          all_goals (with_reducible rfl)
        simp only [Act.put, List.setIfInBounds_toArray, List.set_cons_zero, List.set_cons_succ]
        refine wpAnyH_take (i := 7) (oi := ⟨some 92, _, _, _, _, _⟩) (v := ?_) rfl (by kernel_rfl) (by kernel_rfl) (by kernel_rfl) (fun _ _ _ h => h) (Or.inl ⟨by rfl, ?_⟩) HH.out ?_
        rotate_left
        · intro wS hSw
          try dsimp only at hSw
          go_simp
          all_goals (with_reducible rfl)
        simp only [Act.put, List.setIfInBounds_toArray, List.set_cons_zero, List.set_cons_succ]
        refine wpAnyH_take (i := 8) (oi := ⟨some 93, _, _, _, _, _⟩) (v := ?_) rfl (by kernel_rfl) (by kernel_rfl) (by kernel_rfl) (fun _ _ _ h => h) (Or.inl ⟨by rfl, ?_⟩) HH.out ?_
        rotate_left
        · intro wS hSw
          try dsimp only at hSw
          go_simp
          all_goals (with_reducible rfl)
        simp only [Act.put, List.setIfInBounds_toArray, List.set_cons_zero, List.set_cons_succ]
        refine wpAnyH_take (i := 9) (oi := ⟨some 94, _, _, _, _, _⟩) (v := ?_) rfl (by kernel_rfl) (by kernel_rfl) (by kernel_rfl) (fun _ _ _ h => h) (Or.inl ⟨by rfl, ?_⟩) HH.out ?_
        rotate_left
        · intro wS hSw
          try dsimp only at hSw
          go_simp
          all_goals (with_reducible rfl)
        simp only [Act.put, List.setIfInBounds_toArray, List.set_cons_zero, List.set_cons_succ]
        refine wpAnyH_take (i := 10) (oi := ⟨some 95, _, _, _, _, _⟩) (v := ?_) rfl (by kernel_rfl) (by kernel_rfl) (by kernel_rfl) (fun _ _ _ h => h) (Or.inl ⟨by rfl, ?_⟩) HH.out ?_
        rotate_left
        · intro wS hSw
          try dsimp only at hSw
          go_simp
          all_goals (with_reducible rfl)
        simp only [Act.put, List.setIfInBounds_toArray, List.set_cons_zero, List.set_cons_succ]
        refine wpAnyH_take (i := 11) (oi := ⟨some 96, _, _, _, _, _⟩) (v := ?_) rfl (by kernel_rfl) (by kernel_rfl) (by kernel_rfl) (fun _ _ _ h => h) (Or.inl ⟨by rfl, ?_⟩) HH.out ?_
        rotate_left
        · intro wS hSw
          try dsimp only at hSw
          go_simp
          all_goals (with_reducible rfl)
        simp only [Act.put, List.setIfInBounds_toArray, List.set_cons_zero, List.set_cons_succ]
        refine wpAnyH_take (i := 12) (oi := ⟨some 97, _, _, _, _, _⟩) (v := ?_) rfl (by kernel_rfl) (by kernel_rfl) (by kernel_rfl) (fun _ _ _ h => h) (Or.inl ⟨by rfl, ?_⟩) HH.out ?_
        rotate_left
        · intro wS hSw
          try dsimp only at hSw
          go_simp
          all_goals (with_reducible rfl)
        simp only [Act.put, List.setIfInBounds_toArray, List.set_cons_zero, List.set_cons_succ]
        refine wpAnyH_take (i := 13) (oi := ⟨some 98, _, _, _, _, _⟩) (v := ?_) rfl (by kernel_rfl) (by kernel_rfl) (by kernel_rfl) (fun _ _ _ h => h) (Or.inl ⟨by rfl, ?_⟩) HH.out ?_
        rotate_left
        · intro wS hSw
          try dsimp only at hSw
          go_simp
          all_goals (with_reducible rfl)
        simp only [Act.put, List.setIfInBounds_toArray, List.set_cons_zero, List.set_cons_succ]
        refine wpAnyH_take (i := 14) (oi := ⟨some 99, _, _, _, _, _⟩) (v := ?_) rfl (by kernel_rfl) (by kernel_rfl) (by kernel_rfl) (fun _ _ _ h => h) (Or.inl ⟨by rfl, ?_⟩) HH.out ?_
        rotate_left
        · intro wS hSw
          try dsimp only at hSw
          go_simp
          all_goals (with_reducible rfl)
        simp only [Act.put, List.setIfInBounds_toArray, List.set_cons_zero, List.set_cons_succ]
        refine wpAnyH_take (i := 15) (oi := ⟨some 100, _, _, _, _, _⟩) (v := ?_) rfl (by kernel_rfl) (by kernel_rfl) (by kernel_rfl) (fun _ _ _ h => h) (Or.inl ⟨by rfl, ?_⟩) HH.out ?_
        rotate_left
        · intro wS hSw
          try dsimp only at hSw
          go_simp
          all_goals (with_reducible rfl)
        simp only [Act.put, List.setIfInBounds_toArray, List.set_cons_zero, List.set_cons_succ]
        refine wpAnyH_take (i := 16) (oi := ⟨some 101, _, _, _, _, _⟩) (v := ?_) rfl (by kernel_rfl) (by kernel_rfl) (by kernel_rfl) (fun _ _ _ h => h) (Or.inl ⟨by rfl, ?_⟩) HH.out ?_
        rotate_left
        · intro wS hSw
          try dsimp only at hSw
          go_simp
          all_goals (with_reducible rfl)
        simp only [Act.put, List.setIfInBounds_toArray, List.set_cons_zero, List.set_cons_succ]
        refine wpAnyH_take (i := 17) (oi := ⟨some 102, _, _, _, _, _⟩) (v := ?_) rfl (by kernel_rfl) (by kernel_rfl) (by kernel_rfl) (fun _ _ _ h => h) (Or.inl ⟨by rfl, ?_⟩) HH.out ?_
        rotate_left
        · intro wS hSw
          try dsimp only at hSw
          go_simp
          all_goals (with_reducible rfl)
        simp only [Act.put, List.setIfInBounds_toArray, List.set_cons_zero, List.set_cons_succ]
        refine wpAnyH_ready (rs := [18]) (by kernel_rfl) (by simp) ?_
        refine AllReadyH.cons (o := ⟨some 103, _, _, _, _, _⟩) rfl (fun Kq hKq => ?_) AllReadyH.nil
        go_simp
        refine HS.out.mono ?_
        rintro e w6 ⟨ad6, n6, cap6, rfl, r6, b6⟩
        have hR6 := HRD.out.below b6 (.inr (Nat.le_refl _))
        obtain ⟨u6, _, _, hf6⟩ := hR6.out.there hIn
        have d1 := (b6.cell (World.block_lt_of_cell? _ _ c1)).trans c1
        have d2 := (b6.cell (World.block_lt_of_cell? _ _ c2)).trans c2
        have d3 := (b6.cell (World.block_lt_of_cell? _ _ c3)).trans c3
        have HH6 := Lib.hid (And.intro d1 (And.intro d2 d3))
        refine hKq.out _ _ HH6.out (fun _ => ?_)
        clear hKq Kq c1 c2 c3 d2 d3
        refine wpAnyH_take (i := 19) (oi := ⟨some 104, _, _, _, _, _⟩) (v := ?_) rfl (by kernel_rfl) (by kernel_rfl) (by kernel_rfl) (fun _ _ _ h => h) (Or.inl ⟨by rfl, ?_⟩) HH6.out ?_
        rotate_left
        · intro wS hSw
          go_simp
          all_goals (with_reducible rfl)
        simp only [Act.put, List.setIfInBounds_toArray, List.set_cons_zero, List.set_cons_succ]
        refine wpAnyH_ready (rs := [20]) (by kernel_rfl) (by simp) ?_
        refine AllReadyH.cons (o := ⟨none, .move (.const (.bool false)), _, _, _, _⟩) rfl (fun Kq hKq => ?_) AllReadyH.nil
        go_simp
        refine hKq.out _ _ HH6.out (fun _ => ?_)
        clear hKq Kq
        refine wpAnyH_done (by kernel_rfl) ?_ _
        refine ⟨_, rfl, ?_⟩
        go_simp
        have z6 : wr.heap.size ≤ w6.heap.size := b6.size
        have hl6 : n6 = nI := by rw [← r6.len, vec_len]
        subst hl6
        have hp6 := (hR6.mono z6).put hIn ((OwnInts.of r6).lo (l' := w.heap.size) zb2) (fun b hb => by have h7 : wr.heap.size ≤ b := ((OwnInts.of r6).block hb).1; omega)
        rw [mk_set _ _ hIn] at hp6
        rw [← mk_congr (f := part M A q K (I + 1)) fun i j _ _ => by rw [part_more hIA]] at hp6
        have hb6 := (HBD.out.trans (b6.mono zb2)).trans (hp6.2.below (Nat.le_refl _) (by omega))
        have HR6 := Lib.hid (hp6.1.mono hp6.2.size)
        have HB6' := Lib.hid hb6
        clear hp6 hb6 hR6 r6 b6 HBD HRD HS
        go_wp2
        go_roundw
        case rel => exact ⟨I + 1, _, by omega, by go_num, HR6.out, HB6'.out⟩
        case measure => simp [intOf]; omega
end Go.Proofs.Ythhnfbhpdcemfaa.RedW
