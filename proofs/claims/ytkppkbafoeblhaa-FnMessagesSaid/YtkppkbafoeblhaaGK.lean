/-
  Appending elements of another slice of structs; a slice of generations with one left out.
  Chapter 10's laws, their own text walked, over the contracts of what they call: symbols.
-/
import Derived.Test.YtkppkbafoeblhaaGM
import Derived.Deep.Slices
import Derived.Test.YtkppkbafoeblhaaGA
import Derived.Test.YtkppkbafoeblhaaGH
namespace Go.Proofs.Ytkppkbafoeblhaa.Seq
open Go.ChangeShapes Go.WideShapes Go.ChangeAt Go.RowKit
open Go.Proofs.Ytkppkbafoeblhaa.Drawn
theorem step_pushK {K : Nat} (hK0 : 0 < K) {P : Program} {w : World} {ops : Array Oper} {o : Oper} {a : Act} {Kp : Act → World → Prop} {Q : Exit → Act → World → Prop} {E : Prop} {l h : Nat} {e : TypeId} {ad : Option Addr} {n cap m c : Nat} {us vs : List Value} (hm0 : 0 < m)
    (r : RowK K w l h e ad n cap us) {A : Addr} (hl : vs.length = m * K) (src : ∀ j v, vs[j]? = some v → w.cell? (A.add j) = some v) (hnews : ∀ v ∈ vs, v.oneCell' = true) {t : TypeId} (ht : P.underlying t = some (.slice e)) {z : Value} {bytes : Nat}
    (hinfo : (P.info? e).map (fun i => (i.zero, i.size, i.bytes)) = some (some z, K, bytes)) (hzs : z.cells.size = K) (h63 : n + m ≤ maxLen) (hby : (n + m) * bytes ≤ 140737488355328)
    (hg : o.guard = none) (p q : Operand) (hop : o.op = Op.call { callee := Callee.builtin Builtin.append, args := #[p, q], argTypes := #[t, t] }) (hp : a.eval p = .slice ad n cap) (hq : a.eval q = .slice (some A) m c)
    (hK : ∀ g cap' w', RowK K w' g (g + 1) e (some ⟨g, 0, none⟩) (n + m) cap' (us ++ vs) → Put w w' l h ad g → Kp (a.put o.dst (.slice (some ⟨g, 0, none⟩) (n + m) cap')) w') :
    if Region.wanted o (yielded ops a.tmps) = true then Oper.wp P o a w Kp Q else E := by
  have hw : Region.wanted o (yielded ops a.tmps) = true := by simp [Region.wanted, hg]
  rw [if_pos hw]
  obtain ⟨i, hi, hz, hs, hb⟩ := info_parts hinfo
  obtain ⟨g, cap', w', hrun, hr, hm⟩ := run_pushK hK0 (P := P) (t := t) (ty := o.type) (c := c) hm0 ht hi hz hs hb hzs r hl src hnews h63 hby
  unfold Oper.wp
  simp [execOp, hop, resolve, invoke, builtin, hp, hq, hrun, Result.andThen]
  exact hK _ _ _ hr hm
theorem run_stay {P : Program} {w : World} {t ty e : TypeId} {i : TypeInfo} (ht : P.underlying t = some (.slice e)) (hi : P.info? e = some i) (b a : Addr) {n cap c : Nat} (hn : n ≤ cap) :
    (Builtin.append_ #[t, t] ty #[.slice (some b) n cap, .slice (some a) 0 c]).run P w = .ok (.slice (some b) n cap) w := by
  simp [Builtin.append_, run_underlying ht, sizeOf, typeInfo, hi, Builtin.lenOf, Builtin.firstCells, loadCells, loadCellsFrom, storeCells, hn]
theorem step_stay {P : Program} {w : World} {ops : Array Oper} {o : Oper} {a : Act} {Kp : Act → World → Prop} {Q : Exit → Act → World → Prop} {E : Prop} {e : TypeId} {n cap c : Nat} {b A : Addr} (hn : n ≤ cap) {t : TypeId} (ht : P.underlying t = some (.slice e)) {z : Value} {bytes K : Nat}
    (hinfo : (P.info? e).map (fun i => (i.zero, i.size, i.bytes)) = some (some z, K, bytes))
    (hg : o.guard = none) (p q : Operand) (hop : o.op = Op.call { callee := Callee.builtin Builtin.append, args := #[p, q], argTypes := #[t, t] }) (hp : a.eval p = .slice (some b) n cap) (hq : a.eval q = .slice (some A) 0 c)
    (hK : Kp (a.put o.dst (.slice (some b) n cap)) w) :
    if Region.wanted o (yielded ops a.tmps) = true then Oper.wp P o a w Kp Q else E := by
  have hw : Region.wanted o (yielded ops a.tmps) = true := by simp [Region.wanted, hg]
  rw [if_pos hw]
  obtain ⟨i, hi, hz, hs, hb⟩ := info_parts hinfo
  have hrun := run_stay (P := P) (w := w) (t := t) (ty := o.type) ht hi b A (c := c) hn
  unfold Oper.wp
  simp [execOp, hop, resolve, invoke, builtin, hp, hq, hrun, Result.andThen]
  exact hK
end Go.Proofs.Ytkppkbafoeblhaa.Seq
namespace Go.Proofs.Ytkppkbafoeblhaa.GenW
open Go.ChangeShapes Go.WideShapes Go.ChangeAt Go.RowKit
open Go.Proofs.Ytkppkbafoeblhaa.Seq Go.Proofs.Ytkppkbafoeblhaa.Help Go.Proofs.Ytkppkbafoeblhaa.Mat Go.Proofs.Ytkppkbafoeblhaa.Shape Go.Proofs.Ytkppkbafoeblhaa.Gen Go.Proofs.Ytkppkbafoeblhaa.Deep
/-- A slice of generations and its cells. -/
theorem Gens.all {w : World} {l h n cap : Nat} {a : Addr} {gs : List G2} (s : Gens w l h (some a) n cap gs) : ∃ us : List Value, us.length = n * 2 ∧ (∀ u ∈ us, u.oneCell' = true) ∧ (∀ i u, us[i]? = some u → w.cell? (a.add i) = some u) ∧
    ∀ j g, gs[j]? = some g → ∃ v, us[j * 2]? = some (.int .i64 g.1) ∧ us[j * 2 + 1]? = some v ∧ IntSSI w l h v g.2 ∧ (-9223372036854775808 ≤ g.1 ∧ g.1 ≤ 9223372036854775807) := by
  have hall : ∀ i, i < n * 2 → ∃ u, w.cell? (a.add i) = some u ∧ u.oneCell' = true := by
    intro i hi
    have hj : i / 2 < gs.length := by rw [s.len]; omega
    obtain ⟨a', u, e, _, _, h1, h2, _, h3⟩ := s.cells (i / 2) _ (List.getElem?_eq_getElem hj)
    obtain rfl := Option.some.inj e
    rcases Nat.mod_two_eq_zero_or_one i with hm | hm
    · rw [show i / 2 * 2 = i by omega] at h1
      exact ⟨_, h1, rfl⟩
    · rw [show i / 2 * 2 + 1 = i by omega] at h2
      obtain ⟨_, _, _, rfl, _⟩ := h3
      exact ⟨_, h2, rfl⟩
  have hget : ∀ i, i < n * 2 → ((List.range (n * 2)).map fun i => (w.cell? (a.add i)).getD undef)[i]? = w.cell? (a.add i) := by
    intro i hi
    obtain ⟨u, h1, _⟩ := hall i hi
    rw [List.getElem?_map, List.getElem?_range hi, h1]; simp [h1]
  refine ⟨(List.range (n * 2)).map fun i => (w.cell? (a.add i)).getD undef, by simp, fun u hu => ?_, fun i u hu => ?_, fun j g hg => ?_⟩
  · obtain ⟨i, hi, rfl⟩ := List.mem_map.1 hu
    obtain ⟨u, h1, h2⟩ := hall i (List.mem_range.1 hi)
    rw [h1]; exact h2
  · have hi : i < n * 2 := by
      have := (List.getElem?_eq_some_iff.1 hu).1
      simpa using this
    rw [hget i hi] at hu; exact hu
  · have hj : j < n := by rw [← s.len]; exact (List.getElem?_eq_some_iff.1 hg).1
    obtain ⟨a', u, e, _, _, h1, h2, h4, h3⟩ := s.cells j g hg
    obtain rfl := Option.some.inj e
    exact ⟨u, by rw [hget _ (by omega)]; exact h1, by rw [hget _ (by omega)]; exact h2, h3, h4⟩
theorem cut_at {us : List Value} {n j : Nat} (hl : us.length = n * 2) (hn : 2 ≤ n) (k : Nat) (hk : k < 2) (hj : j < n - 1) : (us.take 2 ++ us.drop 4)[j * 2 + k]? = us[(if j = 0 then 0 else j + 1) * 2 + k]? := by
  have h2 : (us.take 2).length = 2 := by rw [List.length_take]; omega
  by_cases h0 : j = 0
  · subst h0
    rw [if_pos rfl, List.getElem?_append_left (by omega), List.getElem?_take_of_lt (by omega)]
  · rw [if_neg h0, List.getElem?_append_right (by omega), h2, List.getElem?_drop]
    congr 1; omega
/-- One is left out. -/
theorem gens_gap {w : World} {lo hi n cap g : Nat} {gs : List G2} {us : List Value} (hgs : gs.length = n) (hn : 2 ≤ n) (hl : us.length = n * 2) (r : SlK 2 w lo hi (some ⟨g, 0, none⟩) (n - 1) cap (us.take 2 ++ us.drop 4))
    (hx : ∀ j x, gs[j]? = some x → ∃ v, us[j * 2]? = some (.int .i64 x.1) ∧ us[j * 2 + 1]? = some v ∧ IntSSI w lo hi v x.2 ∧ (-9223372036854775808 ≤ x.1 ∧ x.1 ≤ 9223372036854775807)) : Gens w lo hi (some ⟨g, 0, none⟩) (n - 1) cap (gs.take 1 ++ gs.drop 2) := by
  have h1 : (gs.take 1).length = 1 := by rw [List.length_take]; omega
  refine ⟨by rw [List.length_append, h1, List.length_drop]; omega, r.le, r.big, r.nil, fun j x hj => ?_⟩
  have hjn : j < n - 1 := by
    have := (List.getElem?_eq_some_iff.1 hj).1
    rw [List.length_append, h1, List.length_drop] at this; omega
  have hj' : gs[if j = 0 then 0 else j + 1]? = some x := by
    by_cases h0 : j = 0
    · subst h0
      rw [if_pos rfl, ← hj, List.getElem?_append_left (by omega), List.getElem?_take_of_lt (by omega)]
    · rw [if_neg h0, ← hj, List.getElem?_append_right (by omega), h1, List.getElem?_drop]
      congr 1; omega
  obtain ⟨v, q1, q2, q3, q4⟩ := hx _ x hj'
  have e0 := cut_at (us := us) hl hn 0 (by omega) hjn
  have e1 := cut_at (us := us) hl hn 1 (by omega) hjn
  rw [Nat.add_zero, Nat.add_zero, q1] at e0
  rw [q2] at e1
  obtain ⟨a, ea, b1, b2, b3⟩ := r.cells _ _ e0
  obtain ⟨a', ea', _, _, b4⟩ := r.cells _ _ e1
  rw [ea] at ea'
  obtain rfl := Option.some.inj ea'
  exact ⟨a, v, ea, b1, b2, b3, b4, q4, q3⟩
theorem gens_rd {w : World} {l h n cap : Nat} {ad : Option Addr} {gs : List Bs} (s : Gens w l h ad n cap gs) : GenerationSI w l h (.slice ad n cap) gs := by
  refine ⟨ad, n, cap, rfl, s.len, s.le, s.big, s.nil, fun a e => (by cases e), fun j x hx => ?_⟩
  obtain ⟨a, u, ea, h1, h2, h3, h4, h5, h6⟩ := s.cells j x hx
  obtain ⟨ad', n', cap', rfl, s6⟩ := h6
  obtain ⟨ad2, n2, cap2, e2, c1, c2, c3, c4, _, c6⟩ := sls_rd s6
  refine ⟨a, [.int .i64 x.1, .slice ad' n' cap'], ea, [.int .i64 x.1], [.slice ad' n' cap'], rfl, ⟨rfl, fits_i64.2 h5, fun a' e' => ?_⟩, ad2, n2, cap2, e2, c1, c2, c3, c4, fun a' e' => ?_, c6⟩
  · obtain rfl := Option.some.inj e'
    exact ⟨by rw [add_block]; exact h1, by rw [add_block]; exact h2, h3⟩
  · obtain rfl := Option.some.inj e'
    simp at e2
    obtain ⟨rfl, rfl, rfl⟩ := e2
    refine ⟨by rw [add_block, add_block]; exact h1, by rw [add_block, add_block]; exact h2, ?_⟩
    show w.cell? ((a.add (j * 2)).add 1) = _
    rw [Addr.add_add]; exact h4
theorem fit_gap {gs : List Bs} (h : GenerationSF gs) : GenerationSF (gs.take 1 ++ gs.drop 2) := by
  have e : ∀ xs : List Bs, Sz (.l tBas) xs = xs.length + (xs.map (Sz tBas)).sum := fun _ => rfl
  unfold GenerationSF at h ⊢
  match gs, h with
  | [], h => exact h
  | [x], h => exact h
  | x :: y :: zs, h =>
    rw [e] at h
    rw [e]
    simp only [List.take_succ_cons, List.take_zero, List.drop_succ_cons, List.drop_zero, List.length_append, List.length_cons, List.length_nil, List.map_append, List.map_cons, List.map_nil, List.sum_append, List.sum_cons, List.sum_nil] at h ⊢
    omega
end Go.Proofs.Ytkppkbafoeblhaa.GenW
namespace Go.Proofs.Ytkppkbafoeblhaa.LawGen
open Go.ChangeShapes Go.WideShapes Go.ChangeAt Go.RowKit
open Go.Proofs.Ytkppkbafoeblhaa.Drawn Go.Proofs.Ytkppkbafoeblhaa.Kit Go.Proofs.Ytkppkbafoeblhaa.Seq Go.Proofs.Ytkppkbafoeblhaa.Help Go.Proofs.Ytkppkbafoeblhaa.Draw Go.Proofs.Ytkppkbafoeblhaa.DrawInt Go.Proofs.Ytkppkbafoeblhaa.DrawGen Go.Proofs.Ytkppkbafoeblhaa.FieldW Go.Proofs.Ytkppkbafoeblhaa.Vec Go.Proofs.Ytkppkbafoeblhaa.Mat Go.Proofs.Ytkppkbafoeblhaa.MatW Go.Proofs.Ytkppkbafoeblhaa.Shape Go.Proofs.Ytkppkbafoeblhaa.Gen Go.Proofs.Ytkppkbafoeblhaa.GenW

theorem bytes_at {w : World} {v : Value} {ad : Option Addr} {n cap : Nat} (h : IntsAt .u8 w v ad n cap) : BytesAt w v ad n cap :=
  ⟨h.val, Nat.le_trans h.len h.cap, fun j hj => by
    obtain ⟨a, x, e, f, hx⟩ := h.cells j hj
    obtain ⟨h0, h1⟩ := fits_u8.1 f
    exact ⟨a, x, e, h0, h1, hx⟩⟩
set_option maxRecDepth 100000 in
set_option maxHeartbeats 3200000 in
theorem symbols (cS : ToSymOp) (cD : ToDataOp) (w : World) (v : Value) (ad : Option Addr) (n cap : Nat) (ia : IntsAt .u8 w v ad n cap) :
    Calls Try.prog 4 #[v] w fun e w' => e = .returned (.bool true) ∧ Below w.heap.size w w' := by
  have hv := bytes_at ia
  obtain ⟨ds, rfl, sc⟩ := of_ints ia
  rcases Nat.lt_or_ge 1048576 n with big | big
  · go_enter Try.func4, Try.ntmps4
    go_wp2_with (go_at_call 13; refine (Same.big_yes _ _ _ _ big).mono ?_; rintro e w' ⟨rfl, rfl⟩)
    go_ret
    exact ⟨rfl, Below.refl _ _⟩
  have HS := Lib.hid cS
  have HD := Lib.hid cD
  clear cS cD sc
  go_enter Try.func4, Try.ntmps4
  go_wp2_with fail
  go_at_call 13
  refine (Same.big_no _ _ _ _ big).mono ?_
  rintro e w' ⟨rfl, rfl⟩
  go_wp2_with fail
  go_at_call 22
  refine (drawBytesToSymbols w _ ad n cap big hv).mono ?_
  rintro e w1 ⟨ad1, m1, cap1, ys, W, rfl, hm1, ⟨hW0, hW1⟩, r1, b1⟩
  obtain ⟨c, rfl⟩ : ∃ c : Nat, W = c := ⟨W.toNat, by omega⟩
  have z1 := b1.size
  have s1 := r1.sl
  have hl1 := s1.len
  have HF := Lib.hid r1.fits
  have HV1 := Lib.hid (hv.below b1)
  clear r1
  go_wp2_with fail
  go_at_call 23
  refine (HS.out w1 ⟨_, _, _, rfl, s1⟩ (show ys.length ≤ 1048576 by omega) c (by omega) (by omega)).mono ?_
  rintro e w2 ⟨u2, rfl, ⟨ad2, n2, cap2, us2, rfl, g2⟩, b2⟩
  have z2 := b2.size
  have s2 := g2.sls
  have hl2 := s2.len
  have hc2 := s2.le
  have hbg2 := s2.big
  unfold maxLen at hbg2
  replace s1 := s1.below b2 (.inr (Nat.le_refl _))
  have frm := b1.trans (b2.mono z1)
  have HV2 := Lib.hid (HV1.out.below b2)
  clear g2 b1 b2 HV1 hv
  go_wp2_with fail
  go_at_call 24
  refine (drawSymbolsToBytes w2 _ ad n cap big HV2.out).mono ?_
  rintro e w3 ⟨ad3, n3, cap3, M, rfl, hsm, s3, b3⟩
  have z3 := b3.size
  have HM := Lib.hid hsm
  replace s1 := s1.below b3 (.inr (by omega))
  replace s2 := s2.below b3 (.inr (Nat.le_refl _))
  replace frm := frm.trans (b3.mono (by omega))
  clear b3 hsm HV2
  go_wp2_with fail
  go_at_call 25
  refine (HD.out w3 ⟨_, _, _, rfl, s3⟩ HM.out).mono ?_
  rintro e w4 ⟨u4, rfl, o4, b4⟩
  obtain ⟨ad4, n4, cap4, rfl, s4⟩ := ByteSO_is o4
  have z4 := b4.size
  replace s1 := s1.below b4 (.inr (by omega))
  replace s2 := s2.below b4 (.inr (by omega))
  replace s3 := s3.below b4 (.inr (Nat.le_refl _))
  replace frm := frm.trans (b4.mono (by omega))
  clear b4 o4
  have hl4 := s4.len
  have C5 := Lib.hid (toDataS w4 ⟨_, _, _, rfl, s3⟩ HM.out)
  have HT := Lib.hid (rfl : toData M = toData M)
  have HB := Lib.hid (fun (d : List Int) (h : toData M = (d, true)) => toData_back h)
  have HZ := Lib.hid (toData_small M)
  obtain ⟨T, hT⟩ : ∃ T, T = toData M := ⟨_, rfl⟩
  rw [← hT] at C5 s4 HB HZ hl4 ⊢
  obtain ⟨d, fine⟩ := T
  dsimp only at C5 s4 HB HZ hl4 ⊢
  clear HT hT
  go_wp2_with fail
  go_at_call 26
  refine C5.out.mono ?_
  rintro e w5 ⟨u5, rfl, -, b5⟩
  have z5 := b5.size
  replace s1 := s1.below b5 (.inr (by omega))
  replace s2 := s2.below b5 (.inr (by omega))
  replace s3 := s3.below b5 (.inr (by omega))
  replace s4 := s4.below b5 (.inr (Nat.le_refl _))
  replace frm := frm.trans (b5.mono (by omega))
  clear b5 C5
  have hn4 := HZ.out
  cases fine
  case' true =>
    have C6 := Lib.hid (spec_cols w5 s3)
    have hcl := cols_small HM.out
    go_wp2_with fail
    go_at_call 28
    refine C6.out.mono ?_
    rintro e w' ⟨rfl, rfl⟩
    go_wp2_with fail
    go_at_call 23
    refine (HS.out w5 ⟨_, _, _, rfl, s4⟩ (show d.length ≤ 1048576 by omega) (colsOf M) (by omega) (by omega)).mono ?_
    rintro e w6 ⟨u6, rfl, ⟨ad6, n6, cap6, us6, rfl, g6⟩, b6⟩
    rw [HB.out d rfl] at g6
    have z6 := b6.size
    have s6 := g6.sls
    have hl6 := s6.len
    have hM6 := HM.out.len
    replace s1 := s1.below b6 (.inr (by omega))
    replace s2 := s2.below b6 (.inr (by omega))
    replace s3 := s3.below b6 (.inr (by omega))
    replace frm := frm.trans (b6.mono (by omega))
    clear b6 g6
    have C7 := Lib.hid (Same.sameRows w6 s6 s3 (by omega) (fun xs hx => by have := HM.out.each xs hx; omega) rfl)
    go_wp2_with fail
    go_at_call 27
    refine C7.out.mono ?_
    rintro e w7 ⟨rfl, b7⟩
    have z7 := b7.size
    replace s1 := s1.below b7 (.inr (by omega))
    replace s2 := s2.below b7 (.inr (by omega))
    replace frm := frm.trans (b7.mono (by omega))
    clear b7 C7 s3 s4 s6
    clear hl6 hM6
    have z7' : w2.heap.size ≤ w7.heap.size := by omega
    clear z6 z7
    generalize hwe : w7 = wE at *
    clear hwe
  case' false =>
    have z7' : w2.heap.size ≤ w5.heap.size := by omega
    clear s3 s4
    generalize hwe : w5 = wE at *
    clear hwe
  all_goals
    by_cases hok : symOk c ys.length = true
    case neg =>
      have h0 : toSym ys c = [] := toSym_no (by simpa using hok)
      have hn2 : n2 = 0 := by rw [← hl2, h0]; rfl
      subst hn2
      have hno : ¬ ((1 ≤ (c : Int) ∧ (c : Int) ≤ 16) ∧ ys.length ≤ 400) := fun h => hok (symOk_iff.2 h)
      clear h0 hok s2 s1 hl2
      rcases Nat.lt_or_ge c 1 with q1 | q1
      · go_wp2
        go_ret
        exact ⟨rfl, frm⟩
      rcases Nat.lt_or_ge 16 c with q2 | q2
      · go_wp2
        go_ret
        exact ⟨rfl, frm⟩
      have q3 : 400 < m1 := by omega
      go_wp2
      go_ret
      exact ⟨rfl, frm⟩
    case pos =>
      obtain ⟨k1, k2, k3⟩ := back hok HF.out
      obtain ⟨⟨q1, q2⟩, q3⟩ := symOk_iff.1 hok
      have hsmall := fit_sym ys c
      have C8 := Lib.hid (HD.out wE ⟨_, _, _, rfl, s2⟩ hsmall)
      rw [k1] at C8
      have hm4 : m1 ≤ 400 := by omega
      have hn2 : 0 < n2 := by omega
      have hcells : ∃ (a : Addr) (ad0 : Option Addr) (cap0 : Nat), ad2 = some a ∧ wE.cell? a = some (.slice ad0 c cap0) := by
        cases hrows : toSym ys c with
        | nil => rw [hrows] at k2; simp at k2
        | cons r rs =>
          rw [hrows] at k3
          have hr : r.length = c := by
            have : r.length = (c : Int).toNat := k3
            omega
          obtain ⟨a, u, e1, _, _, e2, ad0, n0, cap0, e3, e4⟩ := s2.cells 0 r (by rw [hrows]; rfl)
          have := e4.len
          obtain rfl : n0 = c := by omega
          rw [Deep.add_zero] at e2
          exact ⟨a, ad0, cap0, e1, by rw [e2, e3]⟩
      obtain ⟨a, ad0, cap0, rfl, hce⟩ := hcells
      clear hsmall k1 k2 k3 hok hl2
      go_wp2_with fail
      go_at_call 25
      refine C8.out.mono ?_
      rintro e w8 ⟨u8, rfl, o8, b8⟩
      obtain ⟨ad8, n8, cap8, rfl, s8⟩ := ByteSO_is o8
      have z8 := b8.size
      have hl8 := s8.len
      replace s1 := s1.below b8 (.inr (by omega))
      replace hce := (b8.cell (World.block_lt_of_cell? _ _ hce)).trans hce
      replace frm := frm.trans (b8.mono (by omega))
      have C9 := Lib.hid (Same.sameBytes w8 s8 s1 (by omega) rfl)
      clear b8 o8 C8 s2 s1 s8
      go_wp2_with fail
      go_at_call 18
      refine C9.out.mono ?_
      rintro e w9 ⟨rfl, b9⟩
      replace hce := (b9.cell (World.block_lt_of_cell? _ _ hce)).trans hce
      replace frm := frm.trans (b9.mono (by omega))
      clear b9
      go_wp2
      go_ret
      exact ⟨rfl, frm⟩
set_option maxRecDepth 100000 in
set_option maxHeartbeats 3200000 in
theorem messages (cP : SplitOp) (cJ : JoinOp) (cG : IsGenOp) (cZ : SizeOp) (cW : WidthOp) (w : World) (v : Value) (ad : Option Addr) (n cap : Nat) (ia : IntsAt .u8 w v ad n cap) :
    Calls Try.prog 3 #[v] w fun e w' => e = .returned (.bool true) ∧ Below w.heap.size w w' := by
  have hv := bytes_at ia
  obtain ⟨ds, rfl, sc⟩ := of_ints ia
  rcases Nat.lt_or_ge 1048576 n with big | big
  · go_enter Try.func3, Try.ntmps3
    go_wp2_with (go_at_call 13; refine (Same.big_yes _ _ _ _ big).mono ?_; rintro e w' ⟨rfl, rfl⟩)
    go_ret
    exact ⟨rfl, Below.refl _ _⟩
  have HP := Lib.hid cP
  have HJ := Lib.hid cJ
  have HG := Lib.hid cG
  have HZ := Lib.hid cZ
  have HW := Lib.hid cW
  clear cP cJ cG cZ cW sc
  go_enter Try.func3, Try.ntmps3
  go_wp2_with fail
  go_at_call 13
  refine (Same.big_no _ _ _ _ big).mono ?_
  rintro e w' ⟨rfl, rfl⟩
  go_wp2_with fail
  go_at_call 14
  refine (drawSplitMessage w _ ad n cap big hv).mono ?_
  rintro e w1 ⟨ad1, m1, cap1, ys, W, S, F, rfl, hm1, ⟨hW0, hW1⟩, ⟨hS0, hS1⟩, ⟨hF0, hF1⟩, s1, b1⟩
  obtain ⟨c, rfl⟩ : ∃ c : Nat, W = c := ⟨W.toNat, by omega⟩
  obtain ⟨z, rfl⟩ : ∃ c : Nat, S = c := ⟨S.toNat, by omega⟩
  have z1 := b1.size
  have hl1 := s1.len
  have HF := Lib.hid s1.fits
  go_wp2_with fail
  go_at_call 15
  refine (HP.out w1 ⟨_, _, _, rfl, s1⟩ (show ys.length ≤ 1048576 by omega) c (by omega) (by omega) z (by omega) (by omega) F (by omega) (by omega)).mono ?_
  rintro e w2 ⟨u2, rfl, o2, b2⟩
  have r2 := GenerationSO_is o2
  obtain ⟨ad2, n2, cap2, rfl, g2⟩ := rd_gens r2
  have z2 := b2.size
  have hl2 := g2.len
  have hc2 := g2.le
  have hbg2 := g2.big
  unfold maxLen at hbg2
  replace s1 := s1.below b2 (.inr (Nat.le_refl _))
  have frm := b1.trans (b2.mono z1)
  clear o2 b1 b2 hv
  have C3 := Lib.hid (splitS w2 ⟨_, _, _, rfl, s1⟩ (show ys.length ≤ 1048576 by omega) c (by omega) (by omega) z (by omega) (by omega) F (by omega) (by omega))
  have hfit := Lib.hid (fit_split ys c z F)
  have hno := Lib.hid (fun (h : splitOk z F = false ∨ symOk c ys.length = false) => split_no (d := ys) (W := c) (S := z) (F := F) h)
  have hlaw := Lib.hid (fun (h : symOk c ys.length = true) (hs : splitOk z F = true) => split_law (d := ys) h hs HF.out)
  have hget := Lib.hid (fun (hs : splitOk z F = true) => split_get (d := ys) (W := c) hs)
  obtain ⟨gs, hgs⟩ : ∃ gs, gs = split ys c z F := ⟨_, rfl⟩
  rw [← hgs] at C3 hfit hno hlaw hget r2 g2 hl2
  clear hgs
  go_wp2_with fail
  go_at_call 16
  refine C3.out.mono ?_
  rintro e w3 ⟨u3, rfl, o3, b3⟩
  obtain ⟨ad3, n3, cap3, rfl, g3⟩ := rd_gens (GenerationSO_is o3)
  have hl3 := g3.len
  have z3 := b3.size
  replace s1 := s1.below b3 (.inr (by omega))
  replace g2 := g2.below b3 (.inr (Nat.le_refl _))
  replace r2 := GenerationSI_below r2 b3 (.inr (Nat.le_refl _))
  replace frm := frm.trans (b3.mono (by omega))
  clear b3 o3 g3 C3
  obtain rfl : n3 = n2 := by omega
  by_cases hn0 : n3 = 0
  · subst hn0
    go_wp2
    go_ret
    exact ⟨rfl, frm⟩
  have hs : splitOk z F = true := by
    cases h : splitOk z F
    · have := hno.out (.inl h)
      rw [this] at hl2
      exact absurd hl2.symm hn0
    · rfl
  have hk : symOk c ys.length = true := by
    cases h : symOk c ys.length
    · have := hno.out (.inr h)
      rw [this] at hl2
      exact absurd hl2.symm hn0
    · rfl
  have L1 := Lib.hid (hlaw.out hk hs).1
  have L2 := Lib.hid (hlaw.out hk hs).2
  have L3 := Lib.hid (hget.out hs)
  have C4 := Lib.hid (HJ.out w3 r2 hfit.out)
  rw [L1.out] at C4
  clear hno hlaw hget
  go_wp2_with fail
  go_at_call 17
  refine C4.out.mono ?_
  rintro e w4 ⟨u4, rfl, o4, b4⟩
  obtain ⟨ad4, n4, cap4, rfl, s4⟩ := ByteSO_is o4
  have z4 := b4.size
  have hl4 := s4.len
  replace s1 := s1.below b4 (.inr (by omega))
  replace g2 := g2.below b4 (.inr (by omega))
  replace r2 := GenerationSI_below r2 b4 (.inr (by omega))
  replace frm := frm.trans (b4.mono (by omega))
  have C5 := Lib.hid (Same.sameBytes w4 s4 s1 (by omega) rfl)
  clear b4 o4 C4 s1 s4
  go_wp2_with fail
  go_at_call 18
  refine C5.out.mono ?_
  rintro e w5 ⟨rfl, b5⟩
  have z5 := b5.size
  replace g2 := g2.below b5 (.inr (by omega))
  replace r2 := GenerationSI_below r2 b5 (.inr (by omega))
  replace frm := frm.trans (b5.mono (by omega))
  clear b5 C5 hl4
  go_wp2
  have hc3 : c ≤ 17 := by omega
  obtain ⟨⟨_, _⟩, f1, f2⟩ := splitOk_iff.1 hs
  obtain ⟨⟨q1, q2⟩, q3⟩ := symOk_iff.1 hk
  have hlen := Lib.hid L3.out.1
  have H406 : n3 ≤ 406 := by
    have h1 := (split_flat ys c z F)
    obtain ⟨k, h1, _⟩ := h1
    have h2 := (split_get (d := ys) (W := c) hs).1
    rw [h2, ← hlen.out] at h1
    omega
  have HGET := Lib.hid L3.out.2
  have HPG := Lib.hid (fun (j : Nat) (hj : j < n3) => part_gen (d := ys) (W := c) (S := z) (F := F) hk hs HF.out (i := j) (by rw [← hlen.out]; omega))
  have HK := Lib.hid hk
  have HSP := Lib.hid hs
  have HG2 := Lib.hid g2
  clear L3 hk hs
  go_loopw [10] (fun i wr => ∃ j : Nat, j ≤ n3 ∧ i = .int .i64 j ∧ Below w5.heap.size w5 wr) (fun i _ => n3 - (intOf i).toNat)
  case atStart => exact ⟨0, Nat.zero_le _, rfl, Below.refl _ _⟩
  case round =>
    obtain ⟨j, hj, rfl, hb⟩ := hrel
    have zb := hb.size
    by_cases hlt : j < n3
    · obtain ⟨a, ad', n', cap', g, rfl, hg, hc0, hc1, hbo, hs'⟩ := (HG2.out.below hb (.inr (Nat.le_refl _))).at_ hlt
      have hgj := HGET.out j (by rw [← hlen.out]; omega)
      rw [hg] at hgj
      obtain rfl := Option.some.inj hgj
      obtain ⟨p1, p2, p3⟩ := HPG.out j hlt
      rw [← hlen.out, hl2] at p3
      clear hgj hg
      dsimp only at hc0 hs' hbo
      generalize Gen.part (z : Int).toNat (toSym ys c) j = R at *
      have p2' : colsOf R = c := by rw [p2]; simp
      obtain ⟨⟨_, _⟩, v2, v3, v4, v5⟩ := isGen_in p1
      dsimp only at v2 v3 v4 v5
      have hRs : Small R := ⟨by omega, fun xs hx => by
        have h1 := (isMat_iff.1 v5).1 xs hx
        omega⟩
      have p3' : j + 1 < n3 → R.length = z := fun h => by have := p3 h; omega
      have HR := Lib.hid hRs
      have hsl := hs'.len
      have hwF : IntKind.i64.wrap (F + (j : Int)) = F + (j : Int) := by rw [IntKind.wrap_i64]; omega
      have hwn : IntKind.i64.wrap ((n3 : Int) - 1) = (n3 : Int) - 1 := by rw [IntKind.wrap_i64]; omega
      have K1 := Lib.hid (fun (w' : World) (s : Sls w' w1.heap.size w2.heap.size ad' n' cap' R) => HG.out w' (g := (F + (j : Int), R)) ⟨_, rfl, hbo, _, _, _, rfl, s⟩ HR.out)
      have K2 := Lib.hid (fun (w' : World) (s : Sls w' w1.heap.size w2.heap.size ad' n' cap' R) => HW.out w' (g := (F + (j : Int), R)) ⟨_, rfl, hbo, _, _, _, rfl, s⟩ HR.out)
      have K3 := Lib.hid (fun (w' : World) (s : Sls w' w1.heap.size w2.heap.size ad' n' cap' R) => HZ.out w' (g := (F + (j : Int), R)) ⟨_, rfl, hbo, _, _, _, rfl, s⟩ HR.out)
      rw [p1] at K1
      simp only [p2'] at K2
      have HP3 := Lib.hid p3'
      clear p1 p2 p3 p3' p2' hRs v2 v3 v4 v5
      go_wp2_with fail
      go_at_call 19
      refine (K1.out wr hs').mono ?_
      rintro e x1 ⟨rfl, bl⟩
      replace hc0 := (bl.cell (World.block_lt_of_cell? _ _ hc0)).trans hc0
      replace hc1 := (bl.cell (World.block_lt_of_cell? _ _ hc1)).trans hc1
      replace hs' := hs'.below bl (.inr (Nat.le_refl _))
      have hb1 := hb.trans (bl.mono zb)
      have zb1 := bl.size
      clear bl
      go_wp2_with fail
      go_at_call 20
      refine (K2.out x1 hs').mono ?_
      rintro e x2 ⟨rfl, bl⟩
      replace hc0 := (bl.cell (World.block_lt_of_cell? _ _ hc0)).trans hc0
      replace hc1 := (bl.cell (World.block_lt_of_cell? _ _ hc1)).trans hc1
      replace hs' := hs'.below bl (.inr (Nat.le_refl _))
      have hb2 := hb1.trans (bl.mono (by omega))
      have zb2 := bl.size
      clear bl
      by_cases hlast : j + 1 < n3
      · have hlI : (j : Int) < (n3 : Int) - 1 := by omega
        have K4 := K3.out x2 hs'
        simp only [HP3.out hlast] at K4
        have K5 := Lib.hid K4
        clear K4
        go_wp2_with fail
        go_at_call 21
        refine K5.out.mono ?_
        rintro e x3 ⟨rfl, bl⟩
        have hb3 := hb2.trans (bl.mono (by omega))
        clear bl hs'
        go_wp2
        go_roundw
        case rel => exact ⟨j + 1, by omega, by go_num, hb3⟩
        case measure => simp [intOf]; omega
      · have hlI : ¬ ((j : Int) < (n3 : Int) - 1) := by omega
        clear hs'
        go_wp2
        go_roundw
        case rel => exact ⟨j + 1, by omega, by go_num, hb2⟩
        case measure => simp [intOf]; omega
    · obtain rfl : j = n3 := by omega
      replace frm := frm.trans (hb.mono (by omega))
      by_cases h1n : 1 < j
      case neg =>
        go_wp2
        go_ret
        exact ⟨rfl, frm⟩
      go_wp2
      by_cases h2n : j = 2
      · subst h2n
        by_cases hcc : cap2 = 2
        · subst hcc
          have gD := HG2.out.below (hb.drew) (.inr (Nat.le_refl _))
          have fD : Below w.heap.size w wr.drew := frm.drew
          have zD : w5.heap.size ≤ wr.drew.heap.size := zb
          obtain ⟨a2, rfl⟩ : ∃ a2, ad2 = some a2 := by
            cases ad2 with
            | none => have := gD.nil rfl; omega
            | some a => exact ⟨a, rfl⟩
          obtain ⟨us, hul, huo, huc, hux⟩ := gD.all
          have HUX := Lib.hid hux
          have HUC := Lib.hid huc
          have HUO := Lib.hid huo
          have HUL := Lib.hid hul
          have HLEN := Lib.hid gD.len
          have hcI : (1 : Int) ≤ ((2 : Nat) : Int) := by omega
          have hjI : (2 : Int) ≤ ((2 : Nat) : Int) := by omega
          obtain ⟨bq, hbq⟩ : ∃ bq, bq = (join (gs.take 1 ++ gs.drop 2)).2 := ⟨_, rfl⟩
          have HQ := Lib.hid (show bq = true → (ys.length : Int) < 2 * c * z from fun h => (L2.out (by omega) (by rw [← hbq]; exact h)).2)
          have hgap := Lib.hid hbq.symm
          clear hbq
          have hfitG := Lib.hid (fit_gap hfit.out)
          clear hux huc huo hul
          refine wp_region_held (S := fun _ => True) (by kernel_rfl) ?_
          change wpAnyH _ _ _ _ _ _ _ _ wr.drew
          generalize wr.drew = D at *
          refine wpAnyH_take (i := 1) (oi := ⟨some _, _, _, _, _, _⟩) (v := ?_) rfl (by kernel_rfl) (by kernel_rfl) (by kernel_rfl) (fun _ _ _ h => h) (Or.inl ⟨by rfl, ?_⟩) trivial ?_
          rotate_left
          · intro wS hSw
            try dsimp only at hSw
            go_simp
            all_goals (with_reducible rfl)
          simp only [Act.put, List.setIfInBounds_toArray, List.set_cons_zero, List.set_cons_succ]
          refine wpAnyH_take (i := 2) (oi := ⟨some _, _, _, _, _, _⟩) (v := ?_) rfl (by kernel_rfl) (by kernel_rfl) (by kernel_rfl) (fun _ _ _ h => h) (Or.inl ⟨by rfl, ?_⟩) trivial ?_
          rotate_left
          · intro wS hSw
            try dsimp only at hSw
            go_simp
            all_goals (with_reducible rfl)
          simp only [Act.put, List.setIfInBounds_toArray, List.set_cons_zero, List.set_cons_succ]
          refine wpAnyH_take (i := 4) (oi := ⟨some _, _, _, _, _, _⟩) (v := ?_) rfl (by kernel_rfl) (by kernel_rfl) (by kernel_rfl) (fun _ _ _ h => h) (Or.inl ⟨by rfl, ?_⟩) trivial ?_
          rotate_left
          · intro wS hSw
            try dsimp only at hSw
            go_simp
            all_goals (with_reducible rfl)
          simp only [Act.put, List.setIfInBounds_toArray, List.set_cons_zero, List.set_cons_succ]
          refine wpAnyH_take (i := 5) (oi := ⟨some _, _, _, _, _, _⟩) (v := ?_) rfl (by kernel_rfl) (by kernel_rfl) (by kernel_rfl) (fun _ _ _ h => h) (Or.inl ⟨by rfl, ?_⟩) trivial ?_
          rotate_left
          · intro wS hSw
            try dsimp only at hSw
            go_simp
            all_goals (with_reducible rfl)
          simp only [Act.put, List.setIfInBounds_toArray, List.set_cons_zero, List.set_cons_succ]
          refine wpAnyH_ready (rs := [0]) (by kernel_rfl) (by simp) ?_
          refine AllReadyH.cons (o := ⟨some _, _, _, _, _, _⟩) rfl (fun Kq hKq => ?_) AllReadyH.nil
          have bA := below_new D (.cells #[] 34)
          have bz := bA.size
          go_simp
          generalize D.alloc (.cells #[] 34) = y1 at *
          refine hKq.out _ _ trivial (fun _ => ?_)
          clear hKq Kq
          refine wpAnyH_ready (rs := [3]) (by kernel_rfl) (by simp) ?_
          refine AllReadyH.cons (o := ⟨some _, _, _, _, _, _⟩) rfl (fun Kq hKq => ?_) AllReadyH.nil
          refine step_pushK (K := 2) (by decide) (m := 1) (by decide) (RowK.nil y1 y1.heap.size y1.heap.size 34 _) (A := a2) (vs := us.take 2) (by rw [List.length_take, HUL.out]; omega) (fun i v hv => ?_) (fun v hv => HUO.out v (List.mem_of_mem_take hv)) Try.underlying26 Deep.info_Generation rfl (by unfold maxLen; omega) (by omega) rfl _ _ rfl rfl rfl ?_
          · have hi : i < 2 := by
              have := (List.getElem?_eq_some_iff.1 hv).1
              rw [List.length_take] at this; omega
            rw [List.getElem?_take_of_lt hi] at hv
            have := HUC.out i v hv
            exact (bA.cell (World.block_lt_of_cell? _ _ this)).trans this
          intro gA capA y2 kA pA
          have hA : y1.heap.size ≤ gA ∧ Below y1.heap.size y1 y2 := by
            rcases pA with ⟨_, h1, h2, _⟩ | h
            · omega
            · exact h
          obtain ⟨hA1, bB⟩ := hA
          have bzB := bB.size
          rw [List.nil_append] at kA
          clear pA
          refine hKq.out _ _ trivial (fun _ => ?_)
          clear hKq Kq
          try simp only [Act.put, List.setIfInBounds_toArray, List.set_cons_zero, List.set_cons_succ]
          refine wpAnyH_ready (rs := [6]) (by kernel_rfl) (by simp) ?_
          refine AllReadyH.cons (o := ⟨some _, _, _, _, _, _⟩) rfl (fun Kq hKq => ?_) AllReadyH.nil
          refine step_stay (K := 2) (b := ⟨gA, 0, none⟩) (n := 1) (cap := capA) kA.le Try.underlying26 Deep.info_Generation rfl _ _ rfl rfl rfl ?_
          have hgB : gA < y2.heap.size := by
            obtain ⟨g', e, _, h2⟩ := kA.lt.pos (by omega)
            obtain rfl := (Addr.mk.inj (Option.some.inj e)).1
            exact h2
          have bAC : Below D.heap.size D y2 := bA.trans (bB.mono bz)
          have hsK : SlK 2 y2 0 y2.heap.size (some ⟨gA, 0, none⟩) (2 - 1) capA (us.take 2 ++ us.drop 4) := by
            have h := kA.sl.mono (Nat.zero_le gA) (show gA + 1 ≤ y2.heap.size from hgB)
            rw [show us.drop 4 = [] from List.drop_of_length_le (Nat.le_of_eq HUL.out), List.append_nil]
            exact h
          have hgapG := gens_gap (gs := gs) (us := us) (n := 2) (g := gA) HLEN.out (by omega) HUL.out hsK (fun i x hi => by
            obtain ⟨v, v1, v2, ⟨ad9, n9, cap9, rfl, v3⟩, v4⟩ := HUX.out i x hi
            exact ⟨_, v1, v2, ⟨_, _, _, rfl, (v3.below bAC (.inr (Nat.le_refl _))).mono (Nat.zero_le _) (by have := bAC.size; omega)⟩, v4⟩)
          have C9 := Lib.hid (HJ.out y2 (gens_rd hgapG) hfitG.out)
          rw [hgap.out] at C9
          have f3 := fD.trans (bAC.mono (by omega))
          clear hgapG hsK kA hgB
          refine hKq.out _ _ trivial (fun _ => ?_)
          clear hKq Kq
          try simp only [Act.put, List.setIfInBounds_toArray, List.set_cons_zero, List.set_cons_succ]
          refine wpAnyH_ready (rs := [7]) (by kernel_rfl) (by simp) ?_
          refine AllReadyH.cons (o := ⟨some _, _, _, _, _, _⟩) rfl (fun Kq hKq => ?_) AllReadyH.nil
          go_simp
          refine C9.out.mono ?_
          rintro e y4 ⟨u9, rfl, -, b9⟩
          have f4 := f3.trans (b9.mono (by have := f3.size; omega))
          clear b9 bB bA bAC
          refine hKq.out _ _ trivial (fun _ => ?_)
          clear hKq Kq
          refine wpAnyH_take (i := 8) (oi := ⟨some _, _, _, _, _, _⟩) (v := ?_) rfl (by kernel_rfl) (by kernel_rfl) (by kernel_rfl) (fun _ _ _ h => h) (Or.inl ⟨by rfl, ?_⟩) trivial ?_
          rotate_left
          · intro wS hSw
            try dsimp only at hSw
            go_simp
            all_goals (with_reducible rfl)
          simp only [Act.put, List.setIfInBounds_toArray, List.set_cons_zero, List.set_cons_succ]
          refine wpAnyH_take (i := 9) (oi := ⟨some _, _, _, _, _, _⟩) (v := ?_) rfl (by kernel_rfl) (by kernel_rfl) (by kernel_rfl) (fun _ _ _ h => h) (Or.inl ⟨by rfl, ?_⟩) trivial ?_
          rotate_left
          · intro wS hSw
            try dsimp only at hSw
            go_simp
            all_goals (with_reducible rfl)
          simp only [Act.put, List.setIfInBounds_toArray, List.set_cons_zero, List.set_cons_succ]
          refine wpAnyH_take (i := 10) (oi := ⟨some _, _, _, _, _, _⟩) (v := ?_) rfl (by kernel_rfl) (by kernel_rfl) (by kernel_rfl) (fun _ _ _ h => h) (Or.inl ⟨by rfl, ?_⟩) trivial ?_
          rotate_left
          · intro wS hSw
            try dsimp only at hSw
            go_simp
            all_goals (with_reducible rfl)
          simp only [Act.put, List.setIfInBounds_toArray, List.set_cons_zero, List.set_cons_succ]
          refine wpAnyH_take (i := 11) (oi := ⟨some _, _, _, _, _, _⟩) (v := ?_) rfl (by kernel_rfl) (by kernel_rfl) (by kernel_rfl) (fun _ _ _ h => h) (Or.inl ⟨by rfl, ?_⟩) trivial ?_
          rotate_left
          · intro wS hSw
            try dsimp only at hSw
            go_simp
            all_goals (with_reducible rfl)
          simp only [Act.put, List.setIfInBounds_toArray, List.set_cons_zero, List.set_cons_succ]
          refine wpAnyH_take (i := 12) (oi := ⟨some _, _, _, _, _, _⟩) (v := ?_) rfl (by kernel_rfl) (by kernel_rfl) (by kernel_rfl) (fun _ _ _ h => h) (Or.inl ⟨by rfl, ?_⟩) trivial ?_
          rotate_left
          · intro wS hSw
            try dsimp only at hSw
            go_simp
            all_goals (with_reducible rfl)
          simp only [Act.put, List.setIfInBounds_toArray, List.set_cons_zero, List.set_cons_succ]
          refine wpAnyH_done (by kernel_rfl) ?_ _
          have hcz : c * z ≤ 16 * 8 := Nat.mul_le_mul (by omega) (by omega)
          have hcast : 2 * (c : Int) * (z : Int) = ((2 * (c * z) : Nat) : Int) := by push_cast; rw [Int.mul_assoc]
          have hm1 : IntKind.i64.wrap (2 * (c : Int)) = 2 * (c : Int) := by rw [IntKind.wrap_i64]; omega
          have hm2 : IntKind.i64.wrap (2 * (c : Int) * (z : Int)) = 2 * (c : Int) * (z : Int) := by rw [hcast, IntKind.wrap_i64]; omega
          clear hcast
          cases bq
          · go_wp2
            go_ret
            exact ⟨rfl, f4⟩
          · have hq := HQ.out rfl
            rw [hl1] at hq
            go_wp2
            go_ret
            exact ⟨rfl, f4⟩
        · have hc2n : ¬ cap2 = 2 := hcc
          have gD := HG2.out.below (hb.drew) (.inr (Nat.le_refl _))
          have fD : Below w.heap.size w wr.drew := frm.drew
          have zD : w5.heap.size ≤ wr.drew.heap.size := zb
          obtain ⟨a2, rfl⟩ : ∃ a2, ad2 = some a2 := by
            cases ad2 with
            | none => have := gD.nil rfl; omega
            | some a => exact ⟨a, rfl⟩
          obtain ⟨us, hul, huo, huc, hux⟩ := gD.all
          have HUX := Lib.hid hux
          have HUC := Lib.hid huc
          have HUO := Lib.hid huo
          have HUL := Lib.hid hul
          have HLEN := Lib.hid gD.len
          have hcI : (1 : Int) ≤ (cap2 : Int) := by omega
          have hjI : (2 : Int) ≤ ((2 : Nat) : Int) := by omega
          obtain ⟨bq, hbq⟩ : ∃ bq, bq = (join (gs.take 1 ++ gs.drop 2)).2 := ⟨_, rfl⟩
          have HQ := Lib.hid (show bq = true → (ys.length : Int) < 2 * c * z from fun h => (L2.out (by omega) (by rw [← hbq]; exact h)).2)
          have hgap := Lib.hid hbq.symm
          clear hbq
          have hfitG := Lib.hid (fit_gap hfit.out)
          clear hux huc huo hul
          refine wp_region_held (S := fun _ => True) (by kernel_rfl) ?_
          change wpAnyH _ _ _ _ _ _ _ _ wr.drew
          generalize wr.drew = D at *
          refine wpAnyH_take (i := 1) (oi := ⟨some _, _, _, _, _, _⟩) (v := ?_) rfl (by kernel_rfl) (by kernel_rfl) (by kernel_rfl) (fun _ _ _ h => h) (Or.inl ⟨by rfl, ?_⟩) trivial ?_
          rotate_left
          · intro wS hSw
            try dsimp only at hSw
            go_simp
            all_goals (with_reducible rfl)
          simp only [Act.put, List.setIfInBounds_toArray, List.set_cons_zero, List.set_cons_succ]
          refine wpAnyH_take (i := 2) (oi := ⟨some _, _, _, _, _, _⟩) (v := ?_) rfl (by kernel_rfl) (by kernel_rfl) (by kernel_rfl) (fun _ _ _ h => h) (Or.inl ⟨by rfl, ?_⟩) trivial ?_
          rotate_left
          · intro wS hSw
            try dsimp only at hSw
            go_simp
            all_goals (with_reducible rfl)
          simp only [Act.put, List.setIfInBounds_toArray, List.set_cons_zero, List.set_cons_succ]
          refine wpAnyH_take (i := 4) (oi := ⟨some _, _, _, _, _, _⟩) (v := ?_) rfl (by kernel_rfl) (by kernel_rfl) (by kernel_rfl) (fun _ _ _ h => h) (Or.inl ⟨by rfl, ?_⟩) trivial ?_
          rotate_left
          · intro wS hSw
            try dsimp only at hSw
            go_simp
            all_goals (with_reducible rfl)
          simp only [Act.put, List.setIfInBounds_toArray, List.set_cons_zero, List.set_cons_succ]
          refine wpAnyH_take (i := 5) (oi := ⟨some _, _, _, _, _, _⟩) (v := ?_) rfl (by kernel_rfl) (by kernel_rfl) (by kernel_rfl) (fun _ _ _ h => h) (Or.inl ⟨by rfl, ?_⟩) trivial ?_
          rotate_left
          · intro wS hSw
            try dsimp only at hSw
            go_simp
            all_goals (with_reducible rfl)
          simp only [Act.put, List.setIfInBounds_toArray, List.set_cons_zero, List.set_cons_succ]
          refine wpAnyH_ready (rs := [0]) (by kernel_rfl) (by simp) ?_
          refine AllReadyH.cons (o := ⟨some _, _, _, _, _, _⟩) rfl (fun Kq hKq => ?_) AllReadyH.nil
          have bA := below_new D (.cells #[] 34)
          have bz := bA.size
          go_simp
          generalize D.alloc (.cells #[] 34) = y1 at *
          refine hKq.out _ _ trivial (fun _ => ?_)
          clear hKq Kq
          refine wpAnyH_ready (rs := [3]) (by kernel_rfl) (by simp) ?_
          refine AllReadyH.cons (o := ⟨some _, _, _, _, _, _⟩) rfl (fun Kq hKq => ?_) AllReadyH.nil
          refine step_pushK (K := 2) (by decide) (m := 1) (by decide) (RowK.nil y1 y1.heap.size y1.heap.size 34 _) (A := a2) (vs := us.take 2) (by rw [List.length_take, HUL.out]; omega) (fun i v hv => ?_) (fun v hv => HUO.out v (List.mem_of_mem_take hv)) Try.underlying26 Deep.info_Generation rfl (by unfold maxLen; omega) (by omega) rfl _ _ rfl rfl rfl ?_
          · have hi : i < 2 := by
              have := (List.getElem?_eq_some_iff.1 hv).1
              rw [List.length_take] at this; omega
            rw [List.getElem?_take_of_lt hi] at hv
            have := HUC.out i v hv
            exact (bA.cell (World.block_lt_of_cell? _ _ this)).trans this
          intro gA capA y2 kA pA
          have hA : y1.heap.size ≤ gA ∧ Below y1.heap.size y1 y2 := by
            rcases pA with ⟨_, h1, h2, _⟩ | h
            · omega
            · exact h
          obtain ⟨hA1, bB⟩ := hA
          have bzB := bB.size
          rw [List.nil_append] at kA
          clear pA
          refine hKq.out _ _ trivial (fun _ => ?_)
          clear hKq Kq
          try simp only [Act.put, List.setIfInBounds_toArray, List.set_cons_zero, List.set_cons_succ]
          refine wpAnyH_ready (rs := [6]) (by kernel_rfl) (by simp) ?_
          refine AllReadyH.cons (o := ⟨some _, _, _, _, _, _⟩) rfl (fun Kq hKq => ?_) AllReadyH.nil
          refine step_stay (K := 2) (b := ⟨gA, 0, none⟩) (n := 1) (cap := capA) kA.le Try.underlying26 Deep.info_Generation rfl _ _ rfl rfl rfl ?_
          have hgB : gA < y2.heap.size := by
            obtain ⟨g', e, _, h2⟩ := kA.lt.pos (by omega)
            obtain rfl := (Addr.mk.inj (Option.some.inj e)).1
            exact h2
          have bAC : Below D.heap.size D y2 := bA.trans (bB.mono bz)
          have hsK : SlK 2 y2 0 y2.heap.size (some ⟨gA, 0, none⟩) (2 - 1) capA (us.take 2 ++ us.drop 4) := by
            have h := kA.sl.mono (Nat.zero_le gA) (show gA + 1 ≤ y2.heap.size from hgB)
            rw [show us.drop 4 = [] from List.drop_of_length_le (Nat.le_of_eq HUL.out), List.append_nil]
            exact h
          have hgapG := gens_gap (gs := gs) (us := us) (n := 2) (g := gA) HLEN.out (by omega) HUL.out hsK (fun i x hi => by
            obtain ⟨v, v1, v2, ⟨ad9, n9, cap9, rfl, v3⟩, v4⟩ := HUX.out i x hi
            exact ⟨_, v1, v2, ⟨_, _, _, rfl, (v3.below bAC (.inr (Nat.le_refl _))).mono (Nat.zero_le _) (by have := bAC.size; omega)⟩, v4⟩)
          have C9 := Lib.hid (HJ.out y2 (gens_rd hgapG) hfitG.out)
          rw [hgap.out] at C9
          have f3 := fD.trans (bAC.mono (by omega))
          clear hgapG hsK kA hgB
          refine hKq.out _ _ trivial (fun _ => ?_)
          clear hKq Kq
          try simp only [Act.put, List.setIfInBounds_toArray, List.set_cons_zero, List.set_cons_succ]
          refine wpAnyH_ready (rs := [7]) (by kernel_rfl) (by simp) ?_
          refine AllReadyH.cons (o := ⟨some _, _, _, _, _, _⟩) rfl (fun Kq hKq => ?_) AllReadyH.nil
          go_simp
          refine C9.out.mono ?_
          rintro e y4 ⟨u9, rfl, -, b9⟩
          have f4 := f3.trans (b9.mono (by have := f3.size; omega))
          clear b9 bB bA bAC
          refine hKq.out _ _ trivial (fun _ => ?_)
          clear hKq Kq
          refine wpAnyH_take (i := 8) (oi := ⟨some _, _, _, _, _, _⟩) (v := ?_) rfl (by kernel_rfl) (by kernel_rfl) (by kernel_rfl) (fun _ _ _ h => h) (Or.inl ⟨by rfl, ?_⟩) trivial ?_
          rotate_left
          · intro wS hSw
            try dsimp only at hSw
            go_simp
            all_goals (with_reducible rfl)
          simp only [Act.put, List.setIfInBounds_toArray, List.set_cons_zero, List.set_cons_succ]
          refine wpAnyH_take (i := 9) (oi := ⟨some _, _, _, _, _, _⟩) (v := ?_) rfl (by kernel_rfl) (by kernel_rfl) (by kernel_rfl) (fun _ _ _ h => h) (Or.inl ⟨by rfl, ?_⟩) trivial ?_
          rotate_left
          · intro wS hSw
            try dsimp only at hSw
            go_simp
            all_goals (with_reducible rfl)
          simp only [Act.put, List.setIfInBounds_toArray, List.set_cons_zero, List.set_cons_succ]
          refine wpAnyH_take (i := 10) (oi := ⟨some _, _, _, _, _, _⟩) (v := ?_) rfl (by kernel_rfl) (by kernel_rfl) (by kernel_rfl) (fun _ _ _ h => h) (Or.inl ⟨by rfl, ?_⟩) trivial ?_
          rotate_left
          · intro wS hSw
            try dsimp only at hSw
            go_simp
            all_goals (with_reducible rfl)
          simp only [Act.put, List.setIfInBounds_toArray, List.set_cons_zero, List.set_cons_succ]
          refine wpAnyH_take (i := 11) (oi := ⟨some _, _, _, _, _, _⟩) (v := ?_) rfl (by kernel_rfl) (by kernel_rfl) (by kernel_rfl) (fun _ _ _ h => h) (Or.inl ⟨by rfl, ?_⟩) trivial ?_
          rotate_left
          · intro wS hSw
            try dsimp only at hSw
            go_simp
            all_goals (with_reducible rfl)
          simp only [Act.put, List.setIfInBounds_toArray, List.set_cons_zero, List.set_cons_succ]
          refine wpAnyH_take (i := 12) (oi := ⟨some _, _, _, _, _, _⟩) (v := ?_) rfl (by kernel_rfl) (by kernel_rfl) (by kernel_rfl) (fun _ _ _ h => h) (Or.inl ⟨by rfl, ?_⟩) trivial ?_
          rotate_left
          · intro wS hSw
            try dsimp only at hSw
            go_simp
            all_goals (with_reducible rfl)
          simp only [Act.put, List.setIfInBounds_toArray, List.set_cons_zero, List.set_cons_succ]
          refine wpAnyH_done (by kernel_rfl) ?_ _
          have hcz : c * z ≤ 16 * 8 := Nat.mul_le_mul (by omega) (by omega)
          have hcast : 2 * (c : Int) * (z : Int) = ((2 * (c * z) : Nat) : Int) := by push_cast; rw [Int.mul_assoc]
          have hm1 : IntKind.i64.wrap (2 * (c : Int)) = 2 * (c : Int) := by rw [IntKind.wrap_i64]; omega
          have hm2 : IntKind.i64.wrap (2 * (c : Int) * (z : Int)) = 2 * (c : Int) * (z : Int) := by rw [hcast, IntKind.wrap_i64]; omega
          clear hcast
          cases bq
          · go_wp2
            go_ret
            exact ⟨rfl, f4⟩
          · have hq := HQ.out rfl
            rw [hl1] at hq
            go_wp2
            go_ret
            exact ⟨rfl, f4⟩
      · have h3n : 3 ≤ j := by omega
        have gD := HG2.out.below (hb.drew) (.inr (Nat.le_refl _))
        have fD : Below w.heap.size w wr.drew := frm.drew
        have zD : w5.heap.size ≤ wr.drew.heap.size := zb
        obtain ⟨a2, rfl⟩ : ∃ a2, ad2 = some a2 := by
          cases ad2 with
          | none => have := gD.nil rfl; omega
          | some a => exact ⟨a, rfl⟩
        obtain ⟨us, hul, huo, huc, hux⟩ := gD.all
        have HUX := Lib.hid hux
        have HUC := Lib.hid huc
        have HUO := Lib.hid huo
        have HUL := Lib.hid hul
        have HLEN := Lib.hid gD.len
        have hcI : (1 : Int) ≤ (cap2 : Int) := by omega
        have hjI : (2 : Int) ≤ (j : Int) := by omega
        have hc2n : ¬ cap2 = 2 := by omega
        have hgap := Lib.hid (show (join (gs.take 1 ++ gs.drop 2)).2 = false by
          cases h : (join (gs.take 1 ++ gs.drop 2)).2
          · rfl
          · exact absurd (L2.out (by omega) h).1 (by omega))
        have hfitG := Lib.hid (fit_gap hfit.out)
        clear hux huc huo hul
        refine wp_region_held (S := fun _ => True) (by kernel_rfl) ?_
        change wpAnyH _ _ _ _ _ _ _ _ wr.drew
        generalize wr.drew = D at *
        refine wpAnyH_take (i := 1) (oi := ⟨some _, _, _, _, _, _⟩) (v := ?_) rfl (by kernel_rfl) (by kernel_rfl) (by kernel_rfl) (fun _ _ _ h => h) (Or.inl ⟨by rfl, ?_⟩) trivial ?_
        rotate_left
        · intro wS hSw
          try dsimp only at hSw
          go_simp
          all_goals (with_reducible rfl)
        simp only [Act.put, List.setIfInBounds_toArray, List.set_cons_zero, List.set_cons_succ]
        refine wpAnyH_take (i := 2) (oi := ⟨some _, _, _, _, _, _⟩) (v := ?_) rfl (by kernel_rfl) (by kernel_rfl) (by kernel_rfl) (fun _ _ _ h => h) (Or.inl ⟨by rfl, ?_⟩) trivial ?_
        rotate_left
        · intro wS hSw
          try dsimp only at hSw
          go_simp
          all_goals (with_reducible rfl)
        simp only [Act.put, List.setIfInBounds_toArray, List.set_cons_zero, List.set_cons_succ]
        refine wpAnyH_take (i := 4) (oi := ⟨some _, _, _, _, _, _⟩) (v := ?_) rfl (by kernel_rfl) (by kernel_rfl) (by kernel_rfl) (fun _ _ _ h => h) (Or.inl ⟨by rfl, ?_⟩) trivial ?_
        rotate_left
        · intro wS hSw
          try dsimp only at hSw
          go_simp
          all_goals (with_reducible rfl)
        simp only [Act.put, List.setIfInBounds_toArray, List.set_cons_zero, List.set_cons_succ]
        refine wpAnyH_take (i := 5) (oi := ⟨some _, _, _, _, _, _⟩) (v := ?_) rfl (by kernel_rfl) (by kernel_rfl) (by kernel_rfl) (fun _ _ _ h => h) (Or.inl ⟨by rfl, ?_⟩) trivial ?_
        rotate_left
        · intro wS hSw
          try dsimp only at hSw
          go_simp
          all_goals (with_reducible rfl)
        simp only [Act.put, List.setIfInBounds_toArray, List.set_cons_zero, List.set_cons_succ]
        refine wpAnyH_ready (rs := [0]) (by kernel_rfl) (by simp) ?_
        refine AllReadyH.cons (o := ⟨some _, _, _, _, _, _⟩) rfl (fun Kq hKq => ?_) AllReadyH.nil
        have bA := below_new D (.cells #[] 34)
        have bz := bA.size
        go_simp
        generalize D.alloc (.cells #[] 34) = y1 at *
        refine hKq.out _ _ trivial (fun _ => ?_)
        clear hKq Kq
        refine wpAnyH_ready (rs := [3]) (by kernel_rfl) (by simp) ?_
        refine AllReadyH.cons (o := ⟨some _, _, _, _, _, _⟩) rfl (fun Kq hKq => ?_) AllReadyH.nil
        refine step_pushK (K := 2) (by decide) (m := 1) (by decide) (RowK.nil y1 y1.heap.size y1.heap.size 34 _) (A := a2) (vs := us.take 2) (by rw [List.length_take, HUL.out]; omega) (fun i v hv => ?_) (fun v hv => HUO.out v (List.mem_of_mem_take hv)) Try.underlying26 Deep.info_Generation rfl (by unfold maxLen; omega) (by omega) rfl _ _ rfl rfl rfl ?_
        · have hi : i < 2 := by
            have := (List.getElem?_eq_some_iff.1 hv).1
            rw [List.length_take] at this; omega
          rw [List.getElem?_take_of_lt hi] at hv
          have := HUC.out i v hv
          exact (bA.cell (World.block_lt_of_cell? _ _ this)).trans this
        intro gA capA y2 kA pA
        have hA : y1.heap.size ≤ gA ∧ Below y1.heap.size y1 y2 := by
          rcases pA with ⟨_, h1, h2, _⟩ | h
          · omega
          · exact h
        obtain ⟨hA1, bB⟩ := hA
        have bzB := bB.size
        rw [List.nil_append] at kA
        clear pA
        refine hKq.out _ _ trivial (fun _ => ?_)
        clear hKq Kq
        try simp only [Act.put, List.setIfInBounds_toArray, List.set_cons_zero, List.set_cons_succ]
        refine wpAnyH_ready (rs := [6]) (by kernel_rfl) (by simp) ?_
        refine AllReadyH.cons (o := ⟨some _, _, _, _, _, _⟩) rfl (fun Kq hKq => ?_) AllReadyH.nil
        refine step_pushK (K := 2) (by decide) (m := j - 2) (by omega) kA (A := ⟨a2.block, a2.off + 4, none⟩) (vs := us.drop 4) (by rw [List.length_drop, HUL.out]; omega) (fun i v hv => ?_) (fun v hv => HUO.out v (List.mem_of_mem_drop hv)) Try.underlying26 Deep.info_Generation rfl (by unfold maxLen; omega) (by omega) rfl _ _ rfl rfl rfl ?_
        · rw [List.getElem?_drop] at hv
          have h1 := HUC.out _ v hv
          rw [← Addr.add_add, show a2.add 4 = ⟨a2.block, a2.off + 4, none⟩ by unfold Addr.add; rfl] at h1
          have hlt := World.block_lt_of_cell? _ _ h1
          exact (bB.cell (by omega)).trans ((bA.cell hlt).trans h1)
        intro gB capB y3 kB pB
        have bC := pB.below hA1 bzB
        clear pB kA
        have bAC : Below D.heap.size D y3 := bA.trans ((bB.trans bC).mono bz)
        have hgB : gB < y3.heap.size := by
          obtain ⟨g', e, _, h2⟩ := kB.lt.pos (by omega)
          obtain rfl := (Addr.mk.inj (Option.some.inj e)).1
          exact h2
        have hsK : SlK 2 y3 0 y3.heap.size (some ⟨gB, 0, none⟩) (j - 1) capB (us.take 2 ++ us.drop 4) := by
          have h := kB.sl.mono (Nat.zero_le gB) (show gB + 1 ≤ y3.heap.size from hgB)
          rw [show 1 + (j - 2) = j - 1 by omega] at h
          exact h
        have hgapG := gens_gap (gs := gs) (us := us) (n := j) (g := gB) HLEN.out (by omega) HUL.out hsK (fun i x hi => by
          obtain ⟨v, v1, v2, ⟨ad9, n9, cap9, rfl, v3⟩, v4⟩ := HUX.out i x hi
          exact ⟨_, v1, v2, ⟨_, _, _, rfl, (v3.below bAC (.inr (Nat.le_refl _))).mono (Nat.zero_le _) (by have := bAC.size; omega)⟩, v4⟩)
        rw [show j - 1 = 1 + (j - 2) by omega] at hgapG
        have C9 := Lib.hid (HJ.out y3 (gens_rd hgapG) hfitG.out)
        rw [hgap.out] at C9
        have f3 := fD.trans (bAC.mono (by omega))
        clear hgapG hsK kB hgB
        refine hKq.out _ _ trivial (fun _ => ?_)
        clear hKq Kq
        try simp only [Act.put, List.setIfInBounds_toArray, List.set_cons_zero, List.set_cons_succ]
        refine wpAnyH_ready (rs := [7]) (by kernel_rfl) (by simp) ?_
        refine AllReadyH.cons (o := ⟨some _, _, _, _, _, _⟩) rfl (fun Kq hKq => ?_) AllReadyH.nil
        go_simp
        refine C9.out.mono ?_
        rintro e y4 ⟨u9, rfl, -, b9⟩
        have f4 := f3.trans (b9.mono (by have := f3.size; omega))
        clear b9 bC bB bA bAC
        refine hKq.out _ _ trivial (fun _ => ?_)
        clear hKq Kq
        refine wpAnyH_take (i := 8) (oi := ⟨some _, _, _, _, _, _⟩) (v := ?_) rfl (by kernel_rfl) (by kernel_rfl) (by kernel_rfl) (fun _ _ _ h => h) (Or.inl ⟨by rfl, ?_⟩) trivial ?_
        rotate_left
        · intro wS hSw
          try dsimp only at hSw
          go_simp
          all_goals (with_reducible rfl)
        simp only [Act.put, List.setIfInBounds_toArray, List.set_cons_zero, List.set_cons_succ]
        refine wpAnyH_take (i := 9) (oi := ⟨some _, _, _, _, _, _⟩) (v := ?_) rfl (by kernel_rfl) (by kernel_rfl) (by kernel_rfl) (fun _ _ _ h => h) (Or.inl ⟨by rfl, ?_⟩) trivial ?_
        rotate_left
        · intro wS hSw
          try dsimp only at hSw
          go_simp
          all_goals (with_reducible rfl)
        simp only [Act.put, List.setIfInBounds_toArray, List.set_cons_zero, List.set_cons_succ]
        refine wpAnyH_take (i := 10) (oi := ⟨some _, _, _, _, _, _⟩) (v := ?_) rfl (by kernel_rfl) (by kernel_rfl) (by kernel_rfl) (fun _ _ _ h => h) (Or.inl ⟨by rfl, ?_⟩) trivial ?_
        rotate_left
        · intro wS hSw
          try dsimp only at hSw
          go_simp
          all_goals (with_reducible rfl)
        simp only [Act.put, List.setIfInBounds_toArray, List.set_cons_zero, List.set_cons_succ]
        refine wpAnyH_take (i := 11) (oi := ⟨some _, _, _, _, _, _⟩) (v := ?_) rfl (by kernel_rfl) (by kernel_rfl) (by kernel_rfl) (fun _ _ _ h => h) (Or.inl ⟨by rfl, ?_⟩) trivial ?_
        rotate_left
        · intro wS hSw
          try dsimp only at hSw
          go_simp
          all_goals (with_reducible rfl)
        simp only [Act.put, List.setIfInBounds_toArray, List.set_cons_zero, List.set_cons_succ]
        refine wpAnyH_take (i := 12) (oi := ⟨some _, _, _, _, _, _⟩) (v := ?_) rfl (by kernel_rfl) (by kernel_rfl) (by kernel_rfl) (fun _ _ _ h => h) (Or.inl ⟨by rfl, ?_⟩) trivial ?_
        rotate_left
        · intro wS hSw
          try dsimp only at hSw
          go_simp
          all_goals (with_reducible rfl)
        simp only [Act.put, List.setIfInBounds_toArray, List.set_cons_zero, List.set_cons_succ]
        refine wpAnyH_done (by kernel_rfl) ?_ _
        go_wp2
        go_ret
        exact ⟨rfl, f4⟩
end Go.Proofs.Ytkppkbafoeblhaa.LawGen
