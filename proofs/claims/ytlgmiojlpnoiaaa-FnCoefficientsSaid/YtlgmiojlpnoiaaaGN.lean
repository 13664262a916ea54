/-
  Chapter 12, of the program: the table of forms, what the forms list, the encodings.
  Chapter 12, of the program: the encodings.
  Chapter 12, of the program: what the dense form fills in.
  Chapter 12, of the program: what the sparse form fills in.
  Chapter 12, of the program: decoding.
  Chapter 12: what the laws ask of model and program.
-/
import Derived.Test.YtlgmiojlpnoiaaaGF
import Derived.Test.YtlgmiojlpnoiaaaGI
import Derived.Laws.EntriesVeiled
import Derived.RangeFuncRecord
import Derived.Test.YtlgmiojlpnoiaaaGE
import Derived.Deep.RegionHeld3
import Derived.Test.YtlgmiojlpnoiaaaGJ
import Derived.Test.YtlgmiojlpnoiaaaGA
import Derived.Test.YtlgmiojlpnoiaaaGC
import Derived.Laws.MakeOwn
namespace Go.Proofs.Ytlgmiojlpnoiaaa.CoefI
open Go.ChangeShapes Go.WideShapes Go.ChangeAt Go.RowKit
open Go.Proofs.Ytlgmiojlpnoiaaa.Seq Go.Proofs.Ytlgmiojlpnoiaaa.Help Go.Proofs.Ytlgmiojlpnoiaaa.Field Go.Proofs.Ytlgmiojlpnoiaaa.FieldW Go.Proofs.Ytlgmiojlpnoiaaa.Vec Go.Proofs.Ytlgmiojlpnoiaaa.VecW Go.Proofs.Ytlgmiojlpnoiaaa.Uv Go.Proofs.Ytlgmiojlpnoiaaa.UvW Go.Proofs.Ytlgmiojlpnoiaaa.Rd Go.Proofs.Ytlgmiojlpnoiaaa.Enc Go.Proofs.Ytlgmiojlpnoiaaa.EncW Go.Proofs.Ytlgmiojlpnoiaaa.Coef Go.Proofs.Ytlgmiojlpnoiaaa.CoefW

/-- A block that holds these cells. -/
structure Bq (w : World) (b : Nat) (T : TypeId) (cs : List Value) : Prop where
  obj : w.heap[b]? = some (.cells cs.toArray T (0, 0))
section
variable {w w' : World} {b n : Nat} {T : TypeId} {cs : List Value}
theorem Bq.new (w : World) (cs : List Value) (T : TypeId) : Bq (w.alloc (.cells cs.toArray T)) w.heap.size T cs := ⟨heap_alloc_new w _⟩
theorem Bq.cell (k : Bq w b T cs) {i : Nat} {v : Value} (hv : cs[i]? = some v) : w.cell? ⟨b, i, none⟩ = some v := by simp [World.cell?, k.obj, hv]
theorem Bq.free (k : Bq w b T cs) (i : Nat) : w.frozen? ⟨b, i, none⟩ = false := by simp [World.frozen?, k.obj]
theorem Bq.lt (k : Bq w b T cs) : b < w.heap.size := (Array.getElem?_eq_some_iff.1 k.obj).1
theorem Bq.below (k : Bq w b T cs) (hb : Below n w w') (hn : b < n) : Bq w' b T cs := ⟨(hb.block b hn).trans k.obj⟩
theorem Bq.alloc (k : Bq w b T cs) (o : Obj) : Bq (w.alloc o) b T cs := ⟨(Below.heap_alloc _ _ _ k.lt).trans k.obj⟩
theorem Bq.set (k : Bq w b T cs) (i : Nat) (u : Value) : Bq (w.setCell ⟨b, i, none⟩ u) b T (cs.set i u) := ⟨by rw [heap_setCell_same _ _ _ _ _ _ k.obj]; simp⟩
end
/-- The table: what lists and what fills, for each form. -/
def table : Value := .agg #[.func (.func 64) #[] #[], .func (.func 65) #[] #[], .func (.func 66) #[] #[], .func (.func 67) #[] #[]]
theorem forms (w : World) : Calls Try.prog 50 #[] w fun e w' => e = .returned table ∧ Below w.heap.size w w' := by
  have k0 := Bq.new w [.func (.func 64) #[] #[], .func (.func 65) #[] #[], .func (.func 66) #[] #[], .func (.func 67) #[] #[]] 51
  have b0 := (Below.refl w.heap.size w).alloc (Nat.le_refl _) (.cells #[.func (.func 64) #[] #[], .func (.func 65) #[] #[], .func (.func 66) #[] #[], .func (.func 67) #[] #[]] 51)
  have HK := Lib.hid k0
  have HB := Lib.hid b0
  clear k0 b0
  go_enter Try.func50, Try.ntmps50
  go_wp2
  have c0 := HK.out.cell (i := 0) rfl
  have c1 := HK.out.cell (i := 1) rfl
  have c2 := HK.out.cell (i := 2) rfl
  have c3 := HK.out.cell (i := 3) rfl
  refine bodyPost_ret (by simp [results, Try.results50, go_sem, c0, c1, c2, c3]; rfl) rfl ?_
  exact ⟨rfl, HB.out⟩

theorem listAll (w : World) (ad : Option Addr) (n cap : Nat) : Calls Try.prog 64 #[.slice ad n cap] w fun e w' => e = .returned (.slice ad n cap) ∧ w = w' := by
  go_enter Try.func64, Try.ntmps64
  go_wp2
  go_ret
  exact ⟨rfl, rfl⟩
theorem lit2 (w : World) (e : TypeId) (x y : Int) (hx : Fits .i64 x) (hy : Fits .i64 y) : Sl (w.alloc (.cells #[.int .i64 x, .int .i64 y] e)) w.heap.size (w.heap.size + 1) .i64 (some ⟨w.heap.size, 0, none⟩) 2 2 [x, y] :=
  (Row.new w .i64 e [x, y] 2 rfl (by decide) (by
    intro z hz
    simp only [List.mem_cons, List.not_mem_nil, or_false] at hz
    rcases hz with rfl | rfl
    · exact hx
    · exact hy)).sl
theorem lit1 (w : World) (e : TypeId) (x : Int) (hx : Fits .i64 x) : Row (w.alloc (.cells #[.int .i64 x] e)) w.heap.size (w.heap.size + 1) .i64 e (some ⟨w.heap.size, 0, none⟩) 1 1 [x] :=
  Row.new w .i64 e [x] 1 rfl (by decide) (by simpa using hx)
theorem gaps_take0 {xs : List Int} {j : Nat} (h : xs[j]? = some 0) : gaps (xs.take (j + 1)) = gaps (xs.take j) ∧ tl 0 (xs.take (j + 1)) = tl 0 (xs.take j) + 1 := by
  rw [take_snoc h]; exact gaps_zero _
theorem gaps_take1 {xs : List Int} {j : Nat} {x : Int} (h : xs[j]? = some x) (hx : ¬ x = 0) : gaps (xs.take (j + 1)) = gaps (xs.take j) ++ [(tl 0 (xs.take j) : Int), x] ∧ tl 0 (xs.take (j + 1)) = 0 := by
  rw [take_snoc h]; exact gaps_more _ hx

set_option maxRecDepth 100000 in
theorem listNonzero (w : World) {l h : Nat} {ad : Option Addr} {n cap : Nat} {xs : List Int} (s : Sl w l h .i64 ad n cap xs) (hn : n ≤ 1048576) :
    Calls Try.prog 66 #[.slice ad n cap] w (Gives .i64 3 ((cnt xs : Int) :: gaps xs) w) := by
  have hcap := s.le
  have hbig := s.big
  unfold maxLen at hbig
  have hc9 := cnt_le xs
  rw [s.len] at hc9
  have HC := Lib.hid (impl_cnt w s)
  generalize cnt xs = K at *
  go_enter Try.func66, Try.ntmps66
  go_wp2_with fail
  go_at_call 25
  refine HC.out.mono ?_
  rintro e w' ⟨rfl, rfl⟩
  have r0 := (lit1 w 3 (K : Int) (fits_i64.2 (by omega))).lt
  have b0 := (Below.refl w.heap.size w).alloc (Nat.le_refl _) (.cells #[.int .i64 (K : Int)] 3)
  go_wp2
  go_loopw [3, 4, 12] (fun v g i wr => ∃ (j G : Nat) (ad' : Option Addr) (n' cap' : Nat), j ≤ n ∧ i = .int .i64 j ∧ v = .slice ad' n' cap' ∧ n' ≤ 1 + 2 * j ∧ g = .int .i64 G ∧ G ≤ j ∧ Hid (G = tl 0 (xs.take j)) ∧
    Row wr w.heap.size wr.heap.size .i64 3 ad' n' cap' ((K : Int) :: gaps (xs.take j)) ∧ Below w.heap.size w wr) (fun _ _ i _ => n - (intOf i).toNat)
  case atStart => exact ⟨0, 0, _, 1, _, Nat.zero_le _, rfl, rfl, by omega, rfl, Nat.le_refl _, rfl, r0, b0⟩
  case round =>
    obtain ⟨j, G, ad', n', cap', hj, rfl, rfl, hn', rfl, hG, HG, hr, hb⟩ := hrel
    have zb := hb.size
    by_cases hlt : j < n
    · obtain ⟨a, x, rfl, hx, hc⟩ := (s.below hb (.inr (Nat.le_refl _))).at_ hlt
      by_cases hx0 : x = 0
      · subst hx0
        have HN := Lib.hid (gaps_take0 hx.get)
        clear hx
        go_wp2
        go_roundw
        case rel => exact ⟨j + 1, G + 1, _, _, _, by omega, by go_num, rfl, by omega, by go_num, by omega, by show _ = _; rw [HN.out.2, ← HG.out], by rw [HN.out.1]; exact hr, hb⟩
        case measure => simp [intOf]; omega
      · have HN := Lib.hid (gaps_take1 hx.get hx0)
        have hx2 : (x == 0) = false := by simpa using hx0
        have hl := lit2 wr 3 (G : Int) x (fits_i64.2 (by omega)) hx.fits
        clear hx0 hx
        go_wp2_with (at_builtin; refine wpList_app (hr.alloc _) hl Try.underlying24 info_int (by unfold maxLen; omega) (by omega) (by simp; omega) rfl _ _ rfl rfl rfl ?_; intro ad3 cap3 w3 hr3 hm3)
        have hb3 : Below w.heap.size w w3 := (hb.alloc zb _).trans (hm3.below (Nat.le_refl _) (by simp; omega))
        rw [List.cons_append, HG.out, ← HN.out.1] at hr3
        clear hr hb hm3 hl
        go_wp2
        go_roundw
        case rel => exact ⟨j + 1, 0, _, _, _, by omega, by go_num, rfl, by omega, rfl, by omega, HN.out.2.symm, hr3, hb3⟩
        case measure => simp [intOf]; omega
    · obtain rfl : j = n := by omega
      rw [List.take_of_length_le (Nat.le_of_eq s.len)] at hr
      have HR := Lib.hid hr
      clear hr
      go_wp2
      go_ret
      exact ⟨_, _, _, rfl, HR.out, hb⟩
end Go.Proofs.Ytlgmiojlpnoiaaa.CoefI
namespace Go.Proofs.Ytlgmiojlpnoiaaa.CoefI
open Go.ChangeShapes Go.WideShapes Go.ChangeAt Go.RowKit
open Go.Proofs.Ytlgmiojlpnoiaaa.Seq Go.Proofs.Ytlgmiojlpnoiaaa.Help Go.Proofs.Ytlgmiojlpnoiaaa.Field Go.Proofs.Ytlgmiojlpnoiaaa.FieldW Go.Proofs.Ytlgmiojlpnoiaaa.Vec Go.Proofs.Ytlgmiojlpnoiaaa.VecW Go.Proofs.Ytlgmiojlpnoiaaa.VecOps Go.Proofs.Ytlgmiojlpnoiaaa.Uv Go.Proofs.Ytlgmiojlpnoiaaa.UvW Go.Proofs.Ytlgmiojlpnoiaaa.Rd Go.Proofs.Ytlgmiojlpnoiaaa.Enc Go.Proofs.Ytlgmiojlpnoiaaa.EncW Go.Proofs.Ytlgmiojlpnoiaaa.Coef Go.Proofs.Ytlgmiojlpnoiaaa.CoefW

/-- A literal of two slices. -/
theorem duo {W : World} {l h l2 h2 : Nat} {ad ad2 : Option Addr} {n cap n2 cap2 : Nat} {xs ys : List Int} {g : Nat} {e : TypeId} (s : Sl W l h .i64 ad n cap xs) (s2 : Sl W l2 h2 .i64 ad2 n2 cap2 ys) (hg : W.heap[g]? = some (.cells #[.slice ad n cap, .slice ad2 n2 cap2] e)) : Sls W 0 W.heap.size (some ⟨g, 0, none⟩) 2 2 [xs, ys] := by
  have hlt := Array.getElem?_eq_some_iff.1 hg
  refine ⟨rfl, Nat.le_refl _, by unfold maxLen; omega, (fun e => by cases e), fun j zs hj => ?_⟩
  match j, hj with
  | 0, hj =>
    obtain rfl : xs = zs := by simpa using hj
    exact ⟨_, _, rfl, Nat.zero_le _, hlt.1, by simp [World.cell?, Addr.add, hg], ⟨_, _, _, rfl, (s.lt (Nat.le_refl _)).mono (Nat.zero_le _) (Nat.le_refl _)⟩⟩
  | 1, hj =>
    obtain rfl : ys = zs := by simpa using hj
    exact ⟨_, _, rfl, Nat.zero_le _, hlt.1, by simp [World.cell?, Addr.add, hg], ⟨_, _, _, rfl, (s2.lt (Nat.le_refl _)).mono (Nat.zero_le _) (Nat.le_refl _)⟩⟩

theorem pick0 (w : World) : (Instr.index 51 table (.int .i64 0)).run Try.prog w = .ok (.agg #[.func (.func 64) #[] #[], .func (.func 65) #[] #[]]) w := by
  simp [table, Instr.index, run_underlying Try.underlying51, asIntOf, go_sem]
theorem list0 (w : World) : (Instr.field 50 (.agg #[.func (.func 64) #[] #[], .func (.func 65) #[] #[]]) 0).run Try.prog w = .ok (.func (.func 64) #[] #[]) w := by
  simp [Instr.field, run_underlying Try.underlying50, asAgg, go_sem]
theorem fill0 (w : World) : (Instr.field 50 (.agg #[.func (.func 64) #[] #[], .func (.func 65) #[] #[]]) 1).run Try.prog w = .ok (.func (.func 65) #[] #[]) w := by
  simp [Instr.field, run_underlying Try.underlying50, asAgg, go_sem]
theorem pick1 (w : World) : (Instr.index 51 table (.int .i64 1)).run Try.prog w = .ok (.agg #[.func (.func 66) #[] #[], .func (.func 67) #[] #[]]) w := by
  simp [table, Instr.index, run_underlying Try.underlying51, asIntOf, go_sem]
theorem list1 (w : World) : (Instr.field 50 (.agg #[.func (.func 66) #[] #[], .func (.func 67) #[] #[]]) 0).run Try.prog w = .ok (.func (.func 66) #[] #[]) w := by
  simp [Instr.field, run_underlying Try.underlying50, asAgg, go_sem]
theorem fill1 (w : World) : (Instr.field 50 (.agg #[.func (.func 66) #[] #[], .func (.func 67) #[] #[]]) 1).run Try.prog w = .ok (.func (.func 67) #[] #[]) w := by
  simp [Instr.field, run_underlying Try.underlying50, asAgg, go_sem]
theorem dens_list (xs : List Int) (n : Nat) (h : xs.length = n) : [[0, (n : Int)], xs].flatten = densL xs := by subst h; simp [densL]
theorem spar_list (xs : List Int) (n : Nat) (h : xs.length = n) : [[1, (n : Int)], (cnt xs : Int) :: gaps xs].flatten = sparL xs := by subst h; simp [sparL]
set_option maxRecDepth 100000 in
theorem formD (w : World) {l h : Nat} {ad : Option Addr} {n cap : Nat} {xs : List Int} (s : Sl w l h .i64 ad n cap xs) :
    Calls Try.prog 52 #[.int .i64 0, .slice ad n cap] w (Gives .u8 5 (encD xs) w) := by
  have hcap := s.le
  have hbig := s.big
  unfold maxLen at hbig
  have HV := VecI.isVec_is w s
  cases hv : isVec xs
  · rw [hv] at HV
    have HE := Lib.hid (encD_no hv)
    have HV := Lib.hid HV
    clear hv
    go_enter Try.func52, Try.ntmps52
    go_wp2_with fail
    go_at_call 69
    refine HV.out.mono ?_
    rintro e w' ⟨rfl, rfl⟩
    go_wp2
    go_ret
    rw [HE.out]
    exact ⟨_, _, _, rfl, Row.nil _ _ _ _ _ _, (Below.refl _ _).alloc (Nat.le_refl _) _⟩
  rw [hv] at HV
  have hl := vec_len hv
  have hc9 := cnt_le xs
  have HE := Lib.hid (show encD xs = enc (densL xs) from encD_yes hv)
  have HLn := Lib.hid s.len
  rw [s.len] at hl hc9
  have HV := Lib.hid HV
  have HS := Lib.hid (fun (w' : World) (q : Below w.heap.size w w') => s.below q (.inr (Nat.le_refl _)))
  clear hv
  go_enter Try.func52, Try.ntmps52
  go_wp2_with fail
  go_at_call 69
  refine HV.out.mono ?_
  rintro e w' ⟨rfl, rfl⟩
  have h0 := lit2 w 3 0 (n : Int) (fits_i64.2 (by omega)) (fits_i64.2 (by omega))
  have b0 := (Below.refl w.heap.size w).alloc (Nat.le_refl _) (.cells #[.int .i64 0, .int .i64 (n : Int)] 3)
  have z0 : (w.alloc (.cells #[.int .i64 0, .int .i64 (n : Int)] 3)).heap.size = w.heap.size + 1 := by simp
  go_wp2_with fail
  go_at_call 50
  generalize w.alloc (.cells #[.int .i64 0, .int .i64 (n : Int)] 3) = D at *
  refine (forms D).mono ?_
  rintro e w1 ⟨rfl, b1⟩
  have z1 := b1.size
  have h1 := h0.below b1 (.inl (by omega))
  have hb1 := b0.trans (b1.mono (by omega))
  clear b0 b1 h0
  have hp := pick0
  have hp2 := list0
  unfold table at hp ⊢
  go_wp2_with fail
  go_at_call 64
  refine (listAll w1 ad n cap).mono ?_
  rintro e w2 ⟨rfl, rfl⟩
  have s2 := HS.out w1 hb1
  have hsum : sumLen [[0, (n : Int)], xs] ≤ 42 := by simp [sumLen]; rw [HLn.out]; omega
  have d0 := duo (g := w1.heap.size) (e := 24) (h1.alloc (.cells #[.slice (some ⟨w.heap.size, 0, none⟩) 2 2, .slice ad n cap] 24)) (s2.alloc _) (World.alloc_heap_new w1 _)
  have b3 := (Below.refl w1.heap.size w1).alloc (Nat.le_refl _) (.cells #[.slice (some ⟨w.heap.size, 0, none⟩) 2 2, .slice ad n cap] 24)
  have z3 : (w1.alloc (.cells #[.slice (some ⟨w.heap.size, 0, none⟩) 2 2, .slice ad n cap] 24)).heap.size = w1.heap.size + 1 := by simp
  have HF := Lib.hid (dens_list xs n HLn.out)
  have hlen : (densL xs).length ≤ 83 := by simp [densL]; rw [HLn.out]; omega
  have HZ := Lib.hid (show Below w.heap.size w (w1.alloc (.cells #[.slice (some ⟨w.heap.size, 0, none⟩) 2 2, .slice ad n cap] 24)) from hb1.trans (b3.mono (by omega)))
  have HS2 := Lib.hid hsum
  clear hsum h1 b3 hp hp2
  go_wp2_with fail
  go_at_call 71
  refine (Concat.concat _ d0 (by have := HS2.out; omega)).mono ?_
  rintro e w4 ⟨ad4, n4, cap4, rfl, r4, b4⟩
  rw [HF.out] at r4
  have z4 := b4.size
  have hb4 := HZ.out.trans (b4.mono HZ.out.size)
  have hn4 : n4 ≤ 83 := by have := r4.len; omega
  clear d0 b4 HZ
  go_wp2_with fail
  go_at_call 70
  refine (EncW.impl_enc w4 r4.sl (by omega)).mono ?_
  rintro e w5 ⟨ad5, n5, cap5, rfl, r5, b5⟩
  have hb5 := hb4.trans (b5.mono hb4.size)
  have HR := Lib.hid (r5.lo (l' := w.heap.size) hb4.size)
  clear r4 r5 b5 hb4
  go_wp2
  go_ret
  rw [HE.out]
  exact ⟨_, _, _, rfl, HR.out, hb5⟩
set_option maxRecDepth 100000 in
theorem formS (w : World) {l h : Nat} {ad : Option Addr} {n cap : Nat} {xs : List Int} (s : Sl w l h .i64 ad n cap xs) :
    Calls Try.prog 52 #[.int .i64 1, .slice ad n cap] w (Gives .u8 5 (encS xs) w) := by
  have hcap := s.le
  have hbig := s.big
  unfold maxLen at hbig
  have HV := VecI.isVec_is w s
  cases hv : isVec xs
  · rw [hv] at HV
    have HE := Lib.hid (encS_no hv)
    have HV := Lib.hid HV
    clear hv
    go_enter Try.func52, Try.ntmps52
    go_wp2_with fail
    go_at_call 69
    refine HV.out.mono ?_
    rintro e w' ⟨rfl, rfl⟩
    go_wp2
    go_ret
    rw [HE.out]
    exact ⟨_, _, _, rfl, Row.nil _ _ _ _ _ _, (Below.refl _ _).alloc (Nat.le_refl _) _⟩
  rw [hv] at HV
  have hl := vec_len hv
  have hc9 := cnt_le xs
  have HE := Lib.hid (show encS xs = enc (sparL xs) from encS_yes hv)
  have HLn := Lib.hid s.len
  rw [s.len] at hl hc9
  have HV := Lib.hid HV
  have HS := Lib.hid (fun (w' : World) (q : Below w.heap.size w w') => s.below q (.inr (Nat.le_refl _)))
  clear hv
  go_enter Try.func52, Try.ntmps52
  go_wp2_with fail
  go_at_call 69
  refine HV.out.mono ?_
  rintro e w' ⟨rfl, rfl⟩
  have h0 := lit2 w 3 1 (n : Int) (fits_i64.2 (by omega)) (fits_i64.2 (by omega))
  have b0 := (Below.refl w.heap.size w).alloc (Nat.le_refl _) (.cells #[.int .i64 1, .int .i64 (n : Int)] 3)
  have z0 : (w.alloc (.cells #[.int .i64 1, .int .i64 (n : Int)] 3)).heap.size = w.heap.size + 1 := by simp
  go_wp2_with fail
  go_at_call 50
  generalize w.alloc (.cells #[.int .i64 1, .int .i64 (n : Int)] 3) = D at *
  refine (forms D).mono ?_
  rintro e w1 ⟨rfl, b1⟩
  have z1 := b1.size
  have h1 := h0.below b1 (.inl (by omega))
  have hb1 := b0.trans (b1.mono (by omega))
  clear b0 b1 h0
  have hp := pick1
  have hp2 := list1
  unfold table at hp ⊢
  go_wp2_with fail
  go_at_call 66
  refine (listNonzero w1 (HS.out w1 hb1) (by omega)).mono ?_
  rintro e w2 ⟨ad2, n2, cap2, rfl, r2, b2⟩
  have z2 := b2.size
  have hb2 := hb1.trans (b2.mono (by omega))
  have h2 := h1.below b2 (.inl (by omega))
  have hl2 := r2.len
  have hsum : sumLen [[1, (n : Int)], (cnt xs : Int) :: gaps xs] ≤ 83 := by simp [sumLen, gaps, gp_len]; omega
  have d0 := duo (g := w2.heap.size) (e := 24) (h2.alloc (.cells #[.slice (some ⟨w.heap.size, 0, none⟩) 2 2, .slice ad2 n2 cap2] 24)) (r2.sl.alloc _) (World.alloc_heap_new w2 _)
  have b3 := (Below.refl w2.heap.size w2).alloc (Nat.le_refl _) (.cells #[.slice (some ⟨w.heap.size, 0, none⟩) 2 2, .slice ad2 n2 cap2] 24)
  have z3 : (w2.alloc (.cells #[.slice (some ⟨w.heap.size, 0, none⟩) 2 2, .slice ad2 n2 cap2] 24)).heap.size = w2.heap.size + 1 := by simp
  have HF := Lib.hid (spar_list xs n HLn.out)
  have hlen : (sparL xs).length ≤ 83 := by rw [sparL_len]; omega
  have HZ := Lib.hid (show Below w.heap.size w (w2.alloc (.cells #[.slice (some ⟨w.heap.size, 0, none⟩) 2 2, .slice ad2 n2 cap2] 24)) from hb2.trans (b3.mono (by omega)))
  clear b2 r2 h2 hl2
  have HS2 := Lib.hid hsum
  clear hsum h1 b3 hp hp2
  go_wp2_with fail
  go_at_call 71
  refine (Concat.concat _ d0 (by have := HS2.out; omega)).mono ?_
  rintro e w4 ⟨ad4, n4, cap4, rfl, r4, b4⟩
  rw [HF.out] at r4
  have z4 := b4.size
  have hb4 := HZ.out.trans (b4.mono HZ.out.size)
  have hn4 : n4 ≤ 83 := by have := r4.len; omega
  clear d0 b4 HZ
  go_wp2_with fail
  go_at_call 70
  refine (EncW.impl_enc w4 r4.sl (by omega)).mono ?_
  rintro e w5 ⟨ad5, n5, cap5, rfl, r5, b5⟩
  have hb5 := hb4.trans (b5.mono hb4.size)
  have HR := Lib.hid (r5.lo (l' := w.heap.size) hb4.size)
  clear r4 r5 b5 hb4
  go_wp2
  go_ret
  rw [HE.out]
  exact ⟨_, _, _, rfl, HR.out, hb5⟩
theorem encD (w : World) {l h : Nat} {ad : Option Addr} {n cap : Nat} {xs : List Int} (s : Sl w l h .i64 ad n cap xs) :
    Calls Try.prog 17 #[.slice ad n cap] w (Gives .u8 5 (Coef.encD xs) w) := by
  have HC := Lib.hid (formD w s)
  go_enter Try.func17, Try.ntmps17
  go_wp2_with fail
  go_at_call 52
  refine HC.out.mono ?_
  rintro e w1 ⟨ad1, n1, cap1, rfl, r1, b1⟩
  go_wp2
  go_ret
  exact ⟨_, _, _, rfl, r1, b1⟩
theorem encS (w : World) {l h : Nat} {ad : Option Addr} {n cap : Nat} {xs : List Int} (s : Sl w l h .i64 ad n cap xs) :
    Calls Try.prog 18 #[.slice ad n cap] w (Gives .u8 5 (Coef.encS xs) w) := by
  have HC := Lib.hid (formS w s)
  go_enter Try.func18, Try.ntmps18
  go_wp2_with fail
  go_at_call 52
  refine HC.out.mono ?_
  rintro e w1 ⟨ad1, n1, cap1, rfl, r1, b1⟩
  go_wp2
  go_ret
  exact ⟨_, _, _, rfl, r1, b1⟩
end Go.Proofs.Ytlgmiojlpnoiaaa.CoefI
namespace Go.Proofs.Ytlgmiojlpnoiaaa.CoefI
open Go.ChangeShapes Go.WideShapes Go.ChangeAt Go.RowKit
open Go.Proofs.Ytlgmiojlpnoiaaa.Seq Go.Proofs.Ytlgmiojlpnoiaaa.Help Go.Proofs.Ytlgmiojlpnoiaaa.Field Go.Proofs.Ytlgmiojlpnoiaaa.FieldW Go.Proofs.Ytlgmiojlpnoiaaa.Vec Go.Proofs.Ytlgmiojlpnoiaaa.VecW Go.Proofs.Ytlgmiojlpnoiaaa.VecOps Go.Proofs.Ytlgmiojlpnoiaaa.Uv Go.Proofs.Ytlgmiojlpnoiaaa.UvW Go.Proofs.Ytlgmiojlpnoiaaa.Rd Go.Proofs.Ytlgmiojlpnoiaaa.Enc Go.Proofs.Ytlgmiojlpnoiaaa.EncW Go.Proofs.Ytlgmiojlpnoiaaa.Back Go.Proofs.Ytlgmiojlpnoiaaa.Coef Go.Proofs.Ytlgmiojlpnoiaaa.CoefW

section
variable {w : World} {l h : Nat} {k : IntKind} {e : TypeId} {ad : Option Addr} {n cap : Nat} {xs : List Int}
theorem rowv (r : Row w l h k e ad n cap xs) : RowV w l h e ad n cap (xs.map (.int k)) :=
  ⟨by rw [List.length_map]; exact r.len, r.le, r.big, fun u hu => by obtain ⟨x, _, rfl⟩ := List.mem_map.1 hu; rfl, r.own⟩
theorem rowi (r : RowV w l h e ad n cap (xs.map (.int k))) (hf : ∀ x ∈ xs, Fits k x) : Row w l h k e ad n cap xs :=
  ⟨by have := r.len; rwa [List.length_map] at this, r.le, r.big, hf, r.own⟩
end
theorem decGo_nil {xs l : List Int} {q : Int} : ∀ (f : Nat) (i : Int) (acc : List Int), decGo xs f i acc = (l, q, false) → l = [] := by
  intro f
  induction f with
  | zero => intro i acc h; exact absurd (congrArg (fun z => z.2.2) h) (by simp [decGo])
  | succ f ih =>
    intro i acc h
    obtain ⟨⟨m, q1, b⟩, hr⟩ : ∃ r : Int × Int × Bool, r = rdv xs i := ⟨_, rfl⟩
    cases b
    · rw [decGo_no hr.symm] at h; exact (congrArg Prod.fst h).symm
    · rw [decGo_yes hr.symm] at h; exact ih _ _ h
theorem dec_nil {xs l : List Int} {i c q : Int} (h : dec xs i c = (l, q, false)) : l = [] := by
  unfold dec at h
  split at h
  · exact decGo_nil _ _ _ h
  · exact (congrArg Prod.fst h).symm
theorem dec_two {b : List Int} (hf : ∀ x ∈ b, Fits .u8 x) (i : Int) (n : Nat) : (dec b i n).1 = [] ∨ (dec b i n).1.length = n := by
  obtain ⟨⟨l, q, ok⟩, h⟩ : ∃ r : List Int × Int × Bool, dec b i n = r := ⟨_, rfl⟩
  rw [h]
  cases ok
  · exact .inl (dec_nil h)
  · obtain ⟨_, _, _, _, _, _, k7, _⟩ := dec_back hf h
    rw [Int.toNat_natCast] at k7
    exact .inr k7
theorem fillD_nil (n : Nat) : fillD n [] = zs n := by simp [fillD]
theorem fillD_eq {n : Nat} {xs : List Int} (h : xs.length = n) : fillD n xs = xs := by subst h; exact fillD_full xs

set_option maxRecDepth 100000 in
theorem fillAll (w : World) {l h l2 h2 : Nat} {g n m cap : Nat} {ad : Option Addr} {b : List Int} (r : Row w l h .i64 3 (some ⟨g, 0, none⟩) n n (zs n)) (hn : n ≤ 40) (s : Sl w l2 h2 .u8 ad m cap b) (hm : m ≤ 17592186044416) (i : Nat) (hi : i ≤ m) :
    Calls Try.prog 65 #[.slice (some ⟨g, 0, none⟩) n n, .slice ad m cap, .int .i64 (i : Int)] w fun e w' => (∃ v, e = .returned v) ∧ Row w' l h .i64 3 (some ⟨g, 0, none⟩) n n (fillF 0 b i n) ∧ Mv w w' l h := by
  have HF := Lib.hid (show fillF 0 b i n = fillD n (dec b i n).1 from if_pos rfl)
  have hC := EncW.impl_dec w s hm (i : Int) (by omega) (by omega) (n : Int) (by omega) (by omega)
  have h2 := dec_two s.fits i n
  generalize (dec b i n).1 = D at *
  generalize (dec b i n).2 = D2 at *
  have HC := Lib.hid hC
  clear hC s
  go_enter Try.func65, Try.ntmps65
  go_wp2_with fail
  go_at_call 48
  refine HC.out.mono ?_
  rintro e w1 ⟨ad3, n3, cap3, rfl, r3, b3⟩
  have r1 := r.below b3 (.inr (Nat.le_refl _))
  have hl3 := r3.len
  have hm1 : Mv w w1 l h := Mv.of_below b3 (Nat.le_refl _)
  by_cases h0 : n3 = 0
  · subst h0
    have hcp := run_copy_none (P := Try.prog) w1 64 24 3 3 (some ⟨g, 0, none⟩) ad3 n n 0 cap3 Try.underlying64 (by rfl) (by simp)
    have HE := Lib.hid (show fillF 0 b i n = zs n by rw [HF.out, List.eq_nil_of_length_eq_zero hl3, fillD_nil])
    have HR := Lib.hid r1
    have HM := Lib.hid hm1
    clear r1 r r3 b3 hm1 h2
    go_wp2
    go_end0
    exact ⟨⟨_, rfl⟩, by rw [HE.out]; exact HR.out, HM.out⟩
  · have hD : D.length = n := by
      rcases h2 with e | e
      · rw [e] at hl3; simp at hl3; omega
      · exact e
    obtain rfl : n3 = n := by omega
    obtain ⟨g3, rfl, l3, l4⟩ := r3.pos (by omega)
    have hcp := run_copy_cells (P := Try.prog) w1 64 24 3 3 g 0 n3 n3 ⟨g3, 0, none⟩ n3 cap3 (D.map (.int .i64)) Try.underlying64 (by rfl) (by rw [List.length_map, hl3]; exact (Nat.min_self n3).symm)
      (fun j v hj => by
        rw [List.getElem?_map] at hj
        obtain ⟨x, hx, rfl⟩ := Option.map_eq_some_iff.1 hj
        rw [Addr.add_lit, Nat.zero_add]
        exact r3.cell hx)
      (fun j hj => by
        rw [List.length_map, hl3] at hj
        obtain ⟨u, _, _, hc, _⟩ := r1.there (j := j) hj
        rw [Nat.zero_add, hc]; rfl)
      (fun j hj => by
        rw [List.length_map, hl3] at hj
        obtain ⟨u, _, _, _, hc⟩ := r1.there (j := j) hj
        rw [Nat.zero_add]; exact hc)
      (fun v hv => by obtain ⟨x, _, rfl⟩ := List.mem_map.1 hv; rfl)
    obtain ⟨r5, m5⟩ := (rowv r1).setCells 0 (vs := D.map (.int .i64)) (by rw [List.length_map]; omega) (fun v hv => by obtain ⟨x, _, rfl⟩ := List.mem_map.1 hv; rfl)
    generalize w1.setCells g 0 (D.map (.int .i64)) = w5 at *
    have e5 : List.take 0 ((zs n3).map (Value.int .i64)) ++ D.map (.int .i64) ++ ((zs n3).map (Value.int .i64)).drop (0 + (D.map (Value.int .i64)).length) = D.map (.int .i64) := by
      simp [zs, hD]
    rw [e5] at r5
    have r6 := rowi r5 r3.fits
    have HE := Lib.hid (show fillF 0 b i n3 = D by rw [HF.out, fillD_eq hD])
    have HR := Lib.hid r6
    have HM := Lib.hid (hm1.trans m5)
    clear r1 r r3 b3 hm1 h2 r5 r6 m5 e5
    go_wp2
    go_end0
    exact ⟨⟨_, rfl⟩, by rw [HE.out]; exact HR.out, HM.out⟩
end Go.Proofs.Ytlgmiojlpnoiaaa.CoefI
namespace Go.Proofs.Ytlgmiojlpnoiaaa.CoefI
open Go.RowKit Go.Shelf
open Go.Proofs.Ytlgmiojlpnoiaaa.Seq Go.Proofs.Ytlgmiojlpnoiaaa.Help Go.Proofs.Ytlgmiojlpnoiaaa.Field Go.Proofs.Ytlgmiojlpnoiaaa.FieldW Go.Proofs.Ytlgmiojlpnoiaaa.Vec Go.Proofs.Ytlgmiojlpnoiaaa.VecW Go.Proofs.Ytlgmiojlpnoiaaa.VecOps Go.Proofs.Ytlgmiojlpnoiaaa.Uv Go.Proofs.Ytlgmiojlpnoiaaa.UvW Go.Proofs.Ytlgmiojlpnoiaaa.Rd Go.Proofs.Ytlgmiojlpnoiaaa.Enc Go.Proofs.Ytlgmiojlpnoiaaa.EncW Go.Proofs.Ytlgmiojlpnoiaaa.Gen Go.Proofs.Ytlgmiojlpnoiaaa.Chunk Go.Proofs.Ytlgmiojlpnoiaaa.Back Go.Proofs.Ytlgmiojlpnoiaaa.Coef Go.Proofs.Ytlgmiojlpnoiaaa.CoefW
attribute [local go_sem] Oper.semAt_some

/-! filling in, pair by pair -/
def pr (D : List Int) (i : Nat) : Int × Int := (D.getD (i * 2) 0, D.getD (i * 2 + 1) 0)
def flat (ps : List (Int × Int)) : List Int := ps.flatMap fun p => [p.1, p.2]
def stepP (n : Nat) (P : Option (List Int)) (p : Int × Int) : Option (List Int) := P.bind fun P => if P.length + p.1.toNat < n then some (P ++ zs p.1.toNat ++ [p.2]) else none
def stepsP (n : Nat) (ps : List (Int × Int)) : Option (List Int) := ps.foldl (stepP n) (some [])
theorem steps_snoc (n : Nat) (ps : List (Int × Int)) (p : Int × Int) : stepsP n (ps ++ [p]) = stepP n (stepsP n ps) p := by simp [stepsP]
theorem step_yes {n : Nat} {P : List Int} {p : Int × Int} (h : P.length + p.1.toNat < n) : stepP n (some P) p = some (P ++ zs p.1.toNat ++ [p.2]) := by simp [stepP, h]
theorem fill_go (n : Nat) : ∀ (ps : List (Int × Int)) (P Q : List Int) (rest : List Int), ps.foldl (stepP n) (some P) = some Q → fillP n P (flat ps ++ rest) = fillP n Q rest := by
  intro ps
  induction ps with
  | nil =>
    intro P Q rest h
    obtain rfl : P = Q := Option.some.inj h
    rfl
  | cons p ps ih =>
    intro P Q rest h
    rw [List.foldl_cons] at h
    by_cases hp : P.length + p.1.toNat < n
    · rw [step_yes hp] at h
      rw [← ih _ Q rest h]
      show fillP n P (p.1 :: p.2 :: (flat ps ++ rest)) = _
      rw [fillP, if_neg (by omega)]
    · have e : stepP n (some P) p = none := by simp [stepP, hp]
      rw [e] at h
      have : ∀ ps : List (Int × Int), ps.foldl (stepP n) none = none := by
        intro ps
        induction ps with
        | nil => rfl
        | cons q qs ih => rw [List.foldl_cons]; exact ih
      rw [this] at h
      cases h
theorem fill_done {n : Nat} {ps : List (Int × Int)} {Q : List Int} (h : stepsP n ps = some Q) : fillP n [] (flat ps) = Q ++ zs (n - Q.length) := by
  have := fill_go n ps [] Q [] h
  rw [List.append_nil] at this
  rw [this, fillP]
theorem fill_stop {n : Nat} {ps : List (Int × Int)} {p : Int × Int} {Q : List Int} {rest : List (Int × Int)} (h : stepsP n ps = some Q) (hp : ¬ Q.length + p.1.toNat < n) : fillP n [] (flat (ps ++ [p] ++ rest)) = Q ++ zs (n - Q.length) := by
  have e : flat (ps ++ [p] ++ rest) = flat ps ++ (p.1 :: p.2 :: flat rest) := by simp [flat]
  rw [e, fill_go n ps [] Q _ h, fillP, if_pos (by omega)]
theorem flat_all {D : List Int} {c : Nat} (h : D.length = c * 2) : flat ((List.range c).map (pr D)) = D := by
  have key : ∀ j, j ≤ c → flat ((List.range j).map (pr D)) = D.take (j * 2) := by
    intro j
    induction j with
    | zero => intro _; simp [flat]
    | succ j ih =>
      intro hj
      have h1 : j * 2 < D.length := by omega
      have h2 : j * 2 + 1 < D.length := by omega
      rw [List.range_succ, List.map_append]
      have e : flat ((List.range j).map (pr D) ++ [pr D j]) = flat ((List.range j).map (pr D)) ++ [(pr D j).1, (pr D j).2] := by simp [flat]
      rw [List.map_cons, List.map_nil, e, ih (by omega), Nat.succ_mul]
      show _ = D.take (j * 2 + 1 + 1)
      rw [List.take_succ_eq_append_getElem h2, List.take_succ_eq_append_getElem h1, List.append_assoc]
      unfold pr
      simp only [List.getD_eq_getElem?_getD, List.getElem?_eq_getElem h1, List.getElem?_eq_getElem h2, Option.getD_some]
      rfl
  rw [key c (Nat.le_refl _), ← h, List.take_length]
theorem fin_all (D : List Int) (c : Nat) : (List.finRange c).map (fun i => pr D i.val) = (List.range c).map (pr D) := by
  apply List.ext_getElem (by simp)
  intro i h1 h2
  simp
theorem cuts_two (c : Nat) : cuts 2 (c * 2) = c := by unfold cuts; omega
theorem mv_below {a w w' : World} {l h : Nat} (x : Mv a w l h) (y : Below a.heap.size w w') : Mv a w' l h :=
  ⟨y.os.trans x.os, y.tape.trans x.tape, y.output.trans x.output, Nat.le_trans x.size y.size, fun k hk ho => (y.block k hk).trans (x.block k hk ho)⟩
theorem own_mv {β : Type} {B l h : Nat} {w : World} (hB : w.heap.size ≤ B) : OwnFrom B (fun (_ : β) W => Mv w W l h) :=
  fun _ _ _ _ hs hg hr => mv_below hs ((Below.refl w.heap.size _).grown hg hs.size (fun k e => Nat.le_trans hB (hr k e).1))

/-- A region of a round that ends in a store. -/
theorem wpIn_region_last {P : Program} {ops : Array Oper} {Q : Exit → Act → World → Prop} {l n : Nat} {S : World → Prop} {id : Nat} {a : Act} {w : World} (s : Nat) (hm : P.follows .mixedOrders = true) (hp : ops.all Round.plain = true) (hQ : ∀ a w, ¬ Q .outgrown a w)
    (hb : Drawn.lastB .any ops s = true) (hl : (Array.replicate ops.size false).getD s true = false)
    (h : wpAnyH P .any (Drawn.cutAt ops s) (Drawn.Ahead P ops s Q) S ops.size (Array.replicate ops.size false) a w.drew) : (Code.region id ops true).wpIn (Fence.wide.inRound l) n P Q a w :=
  wpIn_region_any hm (Round.wpAny_round hp hQ _ _ _ _ (Drawn.wpAny_last hb _ _ _ _ (by simp) hl (wpAny_of_held _ _ _ _ h)))

set_option maxRecDepth 100000 in
set_option maxHeartbeats 3200000 in
theorem fillNonzero (w : World) {l h l2 h2 : Nat} {g n m cap : Nat} {ad : Option Addr} {b : List Int} (r : Row w l h .i64 3 (some ⟨g, 0, none⟩) n n (zs n)) (hh : h ≤ w.heap.size) (hn : n ≤ 40) (s : Sl w l2 h2 .u8 ad m cap b) (hm : m ≤ 17592186044416) (i : Nat) (hi : i ≤ m) :
    Calls Try.prog 67 #[.slice (some ⟨g, 0, none⟩) n n, .slice ad m cap, .int .i64 (i : Int)] w fun e w' => (∃ v, e = .returned v) ∧ Row w' l h .i64 3 (some ⟨g, 0, none⟩) n n (fillF 1 b i n) ∧ Mv w w' l h := by
  have HF := Lib.hid (show fillF 1 b i n = fillP n [] (dec b (rdv b i).2.1 (2 * (rdv b i).1)).1 from if_neg (by decide))
  obtain ⟨⟨K, q, ok⟩, hrd⟩ : ∃ r : Int × Int × Bool, rdv b i = r := ⟨_, rfl⟩
  have hKq : ∃ K' q' : Nat, K = K' ∧ q = q' ∧ K' ≤ 1000000000000 ∧ q' ≤ m := by
    cases ok
    · obtain ⟨rfl, rfl⟩ := read_no hrd
      exact ⟨0, 0, rfl, rfl, by omega, by omega⟩
    · obtain ⟨p, K', q', _, rfl, rfl, g1, g2, g3⟩ := read_ok s.fits hrd
      exact ⟨K', q', rfl, rfl, g1, by rw [s.len] at g3; exact g3⟩
  obtain ⟨K, q, rfl, rfl, hK, hq⟩ := hKq
  rw [hrd] at HF
  dsimp only at HF
  obtain ⟨N, hN⟩ : ∃ N : Nat, N = 2 * K := ⟨_, rfl⟩
  have h2K : (2 : Int) * (K : Int) = (N : Int) := by omega
  rw [h2K] at HF
  have HR := fun (w' : World) (x : Below w.heap.size w w') => EncW.impl_rd w' (s.below x (.inr (Nat.le_refl _))) hm (by omega) (by omega) hrd
  have HD := fun (w' : World) (x : Below w.heap.size w w') => EncW.impl_dec w' (s.below x (.inr (Nat.le_refl _))) hm (q : Int) (by omega) (by omega) (N : Int) (by omega) (by omega)
  have hD0 : (dec b q N).1 = [] ∨ (dec b q N).1.length = N := dec_two s.fits q N
  have hDin : In12 (dec b q N).1 := by
    obtain ⟨⟨L, e, ok⟩, hd⟩ : ∃ r : List Int × Int × Bool, dec b q N = r := ⟨_, rfl⟩
    rw [hd]
    cases ok
    · rw [dec_nil hd]; exact In12.nil
    · exact (dec_back s.fits hd).1
  have hDl := dec_len b q N
  generalize (dec b q N).1 = D at *
  generalize (dec b q N).2 = D2 at *
  have hDc : ∃ c, D.length = c * 2 := by
    rcases hD0 with e | e
    · exact ⟨0, by rw [e]; rfl⟩
    · exact ⟨K, by omega⟩
  obtain ⟨c, hDc⟩ := hDc
  have HR := Lib.hid HR
  have HD := Lib.hid HD
  clear hrd s hD0
  have HDc := Lib.hid hDc
  have hN2 : N ≤ 2000000000000 := by omega
  clear hN
  have HDin := Lib.hid hDin
  have hc50 : c ≤ 50 := by omega
  clear hDc hDin hDl
  refine (callsIn_wide (n := 3)).1 ?_
  refine callsIn_of_wp_marks Try.func67 rfl trivial ?_ rfl
  simp only [Try.ntmps67, List.size_toArray, List.length_cons, List.length_nil, Nat.reduceAdd, Nat.reduceSub, Array.replicate_succ, Array.replicate_zero, List.push_toArray, List.append_toArray, List.nil_append, List.cons_append]
  have bV := Boxed.new w 64 (.slice (some ⟨g, 0, none⟩) n n)
  have b0 := (Below.refl w.heap.size w).alloc (Nat.le_refl _) (.cells #[.slice (some ⟨g, 0, none⟩) n n] 64)
  have z0 : (w.alloc (.cells #[.slice (some ⟨g, 0, none⟩) n n] 64)).heap.size = w.heap.size + 1 := by simp
  gi_wp2_with fail
  refine ⟨trivial, ?_⟩
  generalize w.alloc (.cells #[.slice (some ⟨g, 0, none⟩) n n] 64) = W0 at *
  refine (callsIn_wide.2 (HR.out W0 b0)).mono ?_
  rintro e w1 ⟨rfl, b1⟩
  have z1 := b1.size
  replace bV := box_below bV b1 (by omega)
  replace b1 := b0.trans (b1.mono (by omega))
  clear b0
  gi_wp2_with fail
  refine ⟨trivial, ?_⟩
  refine (callsIn_wide.2 (HD.out w1 b1)).mono ?_
  rintro e w2 ⟨adD, nD, capD, rfl, rD, b2⟩
  have z2 := b2.size
  replace bV := box_below bV b2 (by omega)
  replace b2 := b1.trans (b2.mono (by omega))
  have hnD := rD.len
  have bI := Boxed.new w2 3 (.int .i64 0)
  replace bV := bV.alloc (.cells #[.int .i64 0] 3)
  replace b2 := b2.alloc (by omega) (.cells #[.int .i64 0] 3)
  replace rD := rD.alloc (.cells #[.int .i64 0] 3)
  have z3 : (w2.alloc (.cells #[.int .i64 0] 3)).heap.size = w2.heap.size + 1 := by simp
  clear b1
  gi_wp2_with fail
  refine ⟨trivial, ?_⟩
  generalize w2.alloc (.cells #[.int .i64 0] 3) = W2 at *
  refine (callsIn_wide.2 (chunkFnInt W2 adD nD capD 2 (by omega) (by omega))).mono ?_
  rintro e w3 ⟨rfl, rfl⟩
  have bA := (Boxed.new W2 24 (.slice adD nD capD)).alloc (.cells #[.int .i64 ((2 : Nat) : Int)] 3)
  have bB := Boxed.new (W2.alloc (.cells #[.slice adD nD capD] 24)) 3 (.int .i64 ((2 : Nat) : Int))
  rw [World.size_alloc] at bB
  replace bV := (bV.alloc (.cells #[.slice adD nD capD] 24)).alloc (.cells #[.int .i64 ((2 : Nat) : Int)] 3)
  replace bI := (bI.alloc (.cells #[.slice adD nD capD] 24)).alloc (.cells #[.int .i64 ((2 : Nat) : Int)] 3)
  replace rD := (rD.alloc (.cells #[.slice adD nD capD] 24)).alloc (.cells #[.int .i64 ((2 : Nat) : Int)] 3)
  replace b2 := (b2.alloc (by omega) (.cells #[.slice adD nD capD] 24)).alloc (by simp; omega) (.cells #[.int .i64 ((2 : Nat) : Int)] 3)
  have z4 : (boxesInt W2 (.slice adD nD capD) (.int .i64 ((2 : Nat) : Int))).heap.size = W2.heap.size + 2 := by unfold boxesInt; simp
  change Below _ _ (boxesInt _ _ _) at b2
  change Boxed (boxesInt _ _ _) _ _ _ at bV
  change Boxed (boxesInt _ _ _) _ _ _ at bI
  change Boxed (boxesInt _ _ _) _ _ _ at bA
  change Boxed (boxesInt _ _ _) _ _ _ at bB
  change Row (boxesInt _ _ _) _ _ _ _ _ _ _ _ at rD
  generalize boxesInt W2 (.slice adD nD capD) (.int .i64 ((2 : Nat) : Int)) = W1 at *
  have r1 := r.below b2 (.inr (Nat.le_refl _))
  have m1 : Mv w W1 l h := Mv.of_below b2 (Nat.le_refl _)
  clear r
  gi_wp2
  have HFX := Lib.hid (fin_all D c)
  have HFL := Lib.hid (flat_all HDc.out)
  have hnc : nD = c * 2 := by rw [← hnD]; exact HDc.out
  have hcu : cuts 2 nD = c := by rw [hnc]; exact cuts_two c
  have hnD100 : nD ≤ 100 := by omega
  have HNC := Lib.hid hnc
  have HCU := Lib.hid hcu
  have HND := Lib.hid hnD
  clear hnc hcu hnD
  have hmm : nD ≤ capD := rD.le
  have hmx : capD ≤ maxLen := rD.big
  have hnil : adD = none → capD = 0 := rD.sl.nil
  refine wpIn_rangeFunc_ownG (α := Fin (cuts 2 nD)) rfl (by omega) (gf := 79) (lb := #[.pointer (some ⟨w2.heap.size + 1, 0, none⟩), .pointer (some ⟨w2.heap.size + 1 + 1, 0, none⟩)]) rfl trivial (enters_of Try.func79 (by kernel_rfl) rfl)
    (encs := fun x => #[piece adD nD 2 x.val]) (Kp := KeepB (w2.heap.size + 1) (w2.heap.size + 1 + 1)) (S := fun zs => zs = List.finRange (cuts 2 nD)) (Sp := fun pre => pre <+: List.finRange (cuts 2 nD)) (N := cuts 2 nD) (w0 := W1)
    (fun l3 J Jx W hW hJ _ hY h0 => chunk1Int 2 (by omega) l3 _ _ hmm hmx hnil (by omega) (by omega) (by omega) _ J Jx hJ W hY (box_below (z3 ▸ bA) hW (by omega)) (box_below (z3 ▸ bB) hW (by omega)) h0)
    KeepB.trans (keepB_put (by omega) (by omega)) (Below.refl _ _) (fun _ => rfl)
    (fun (pre : List (Fin (cuts 2 nD))) W => (∃ P, stepsP n (pre.map fun i => pr D i.val) = some P ∧ P.length ≤ n ∧ Boxed W w2.heap.size 3 (.int .i64 P.length) ∧ Boxed W w.heap.size 64 (.slice (some ⟨g, 0, none⟩) n n) ∧
      Row W l h .i64 3 (some ⟨g, 0, none⟩) n n (P ++ zs (n - P.length)) ∧ Row W w1.heap.size w2.heap.size .i64 3 adD nD capD D ∧ Boxed W (w2.heap.size + 1) 24 (.slice adD nD capD) ∧ Boxed W (w2.heap.size + 1 + 1) 3 (.int .i64 ((2 : Nat) : Int)) ∧ W1.heap.size ≤ W.heap.size) ∧ Mv w W l h)
    (fun c pre W => (c = .ret ∧ ∃ P pre' x, pre = pre' ++ [x] ∧ stepsP n (pre'.map fun i => pr D i.val) = some P ∧ ¬ P.length + (pr D x.val).1.toNat < n ∧ Row W l h .i64 3 (some ⟨g, 0, none⟩) n n (P ++ zs (n - P.length))) ∧ Mv w W l h)
    (OwnFrom.and (Own.from (own_kc fun s X Y m h => by
      obtain ⟨P, i0, i1, i2, i3, i4, i5, i6, i7, i8⟩ := h
      exact ⟨P, i0, i1, box_kc i2 m, box_kc i3 m, i4.kc m, i5.kc m, box_kc i6 m, box_kc i7 m, Nat.le_trans i8 m.size⟩) _) (own_mv (by omega)))
    (fun _ => OwnFrom.and (Own.from (own_kc fun s X Y m h => by
      obtain ⟨h0, P, pre', x, i0, i1, i2, i3⟩ := h
      exact ⟨h0, P, pre', x, i0, i1, i2, i3.kc m⟩) _) (own_mv (by omega)))
    ⟨⟨[], rfl, Nat.zero_le _, bI, bV, r1, rD, (z3 ▸ bA), (z3 ▸ bB), Nat.le_refl _⟩, m1⟩
    (fun x => { tmps := #[.slice (some ⟨g, 0, none⟩) n n, .slice ad m cap, .int .i64 i, .pointer (some ⟨w.heap.size, 0, none⟩), undef, undef, .int .i64 K, .int .i64 q, .bool ok, .slice adD nD capD, .int .i64 D2.fst, .bool D2.snd, .pointer (some ⟨w2.heap.size, 0, none⟩), piece adD nD 2 x.val,
      .tuple #[.int .i64 K, .int .i64 q, .bool ok], .slice ad m cap, .int .i64 i, .tuple #[.int .i64 K, .int .i64 q, .bool ok], .int .i64 K, .int .i64 q, .bool ok, .tuple #[.slice adD nD capD, .int .i64 D2.fst, .bool D2.snd], .slice ad m cap, .int .i64 q, .int .i64 K, .int .i64 N,
      .tuple #[.slice adD nD capD, .int .i64 D2.fst, .bool D2.snd], .slice adD nD capD, .int .i64 D2.fst, .bool D2.snd, .slice adD nD capD, .func (.func 79) #[] #[.pointer (some ⟨w2.heap.size + 1, 0, none⟩), .pointer (some ⟨w2.heap.size + 1 + 1, 0, none⟩)], piece adD nD 2 x.val,
      undef, undef, undef, undef, undef, undef, undef, undef, undef, undef, undef, undef, undef, undef, undef, undef, undef], defers := [] }) ?assign ?body ?done ?stop
  case assign =>
    intro l x W K' hK
    unfold piece at *
    gi_wp2
    exact hK
  case body =>
    rintro l4 pre ⟨x, hx⟩ W ⟨⟨P, i0, i1, i2, i3, i4, i5, i6, i7, i8⟩, hMW⟩ hlt
    have hxc : x < c := by rw [← HCU.out]; exact hx
    have hx2 : x * 2 + 2 ≤ nD := by rw [HNC.out]; omega
    obtain ⟨gD, rfl, gD1, gD2⟩ := i5.pos (by omega)
    have hpc : piece (some ⟨gD, 0, none⟩) nD 2 x = .slice (some ⟨gD, x * 2, none⟩) 2 2 := by
      unfold piece
      rw [show min 2 (nD - x * 2) = 2 by omega]
      simp [Addr.add_lit]
    have hi1 := HDin.out (pr D x).1 (by unfold pr; simp only [List.getD_eq_getElem?_getD]; rw [List.getElem?_eq_getElem (by rw [HND.out]; omega)]; simp)
    have hi2 := HDin.out (pr D x).2 (by unfold pr; simp only [List.getD_eq_getElem?_getD]; rw [List.getElem?_eq_getElem (by rw [HND.out]; omega)]; simp)
    have cG : W.cell? ⟨gD, x * 2, none⟩ = some (.int .i64 (pr D x).1) := i5.cell (by unfold pr; simp only [List.getD_eq_getElem?_getD]; rw [List.getElem?_eq_getElem (by rw [HND.out]; omega)]; simp)
    have cX : W.cell? ⟨gD, x * 2 + 1, none⟩ = some (.int .i64 (pr D x).2) := i5.cell (by unfold pr; simp only [List.getD_eq_getElem?_getD]; rw [List.getElem?_eq_getElem (by rw [HND.out]; omega)]; simp)
    have HPR : Hid ((pre ++ [(⟨x, hx⟩ : Fin (cuts 2 nD))]).map (fun i => pr D i.val) = (pre.map fun i => pr D i.val) ++ [pr D x]) := by show _ = _; simp
    have hdx : D[x * 2 + 1]? = some (pr D x).2 := by unfold pr; simp only [List.getD_eq_getElem?_getD]; rw [List.getElem?_eq_getElem (by rw [HND.out]; omega)]; simp
    rw [hpc]
    obtain ⟨p, hp⟩ : ∃ p, p = pr D x := ⟨_, rfl⟩
    rw [← hp] at hi1 hi2 cG cX HPR hdx
    obtain ⟨G, X⟩ := p
    obtain ⟨G, rfl⟩ : ∃ G' : Nat, G = G' := ⟨G.toNat, by omega⟩
    have HP := Lib.hid hp
    have HDX := Lib.hid hdx
    clear hp hpc hdx
    obtain ⟨L, hL⟩ : ∃ L, L = P.length + G := ⟨_, rfl⟩
    have hwr : IntKind.i64.wrap ((P.length : Int) + (G : Int)) = (L : Int) := by rw [IntKind.wrap_i64]; omega
    have HL := Lib.hid hL
    have HI1 := Lib.hid i1
    have hL9 : L ≤ 1000000000040 := by omega
    clear hL
    have HH := Lib.hid (show W.drew.cell? ⟨w2.heap.size, 0, none⟩ = some (.int .i64 P.length) ∧ W.drew.cell? ⟨gD, x * 2, none⟩ = some (.int .i64 (G : Int)) from ⟨i2.cell, cG⟩)
    have hf2 : W.drew.frozen? ⟨w2.heap.size, 0, none⟩ = false := i2.frozen
    have hc2 : W.drew.cell? ⟨w2.heap.size, 0, none⟩ = some (.int .i64 P.length) := i2.cell
    gi_wp2
    refine wpIn_region_last 5 (S := fun w' => w'.cell? ⟨w2.heap.size, 0, none⟩ = some (.int .i64 P.length) ∧ w'.cell? ⟨gD, x * 2, none⟩ = some (.int .i64 (G : Int))) (by kernel_rfl) (by kernel_rfl) (fun _ _ h => h) (by kernel_rfl) (by kernel_rfl) ?_
    change wpAnyH _ _ _ _ _ _ _ _ (World.drew _)
    refine wpAnyH_take (i := 0) (oi := ⟨some _, _, _, _, _, _⟩) (v := ?_) rfl (by kernel_rfl) (by kernel_rfl) (by kernel_rfl) (fun _ _ _ h => h) (Or.inl ⟨by rfl, ?_⟩) HH.out ?_
    rotate_left
    · intro wS hSw
      try dsimp only at hSw
      go_simp
      all_goals (with_reducible rfl)
    simp only [Act.put, List.setIfInBounds_toArray, List.set_cons_zero, List.set_cons_succ]
    refine wpAnyH_take (i := 1) (oi := ⟨some _, _, _, _, _, _⟩) (v := ?_) rfl (by kernel_rfl) (by kernel_rfl) (by kernel_rfl) (fun _ _ _ h => h) (Or.inl ⟨by rfl, ?_⟩) HH.out ?_
    rotate_left
    · intro wS hSw
      try dsimp only at hSw
      go_simp
      all_goals (with_reducible rfl)
    simp only [Act.put, List.setIfInBounds_toArray, List.set_cons_zero, List.set_cons_succ]
    refine wpAnyH_take (i := 2) (oi := ⟨some _, _, _, _, _, _⟩) (v := ?_) rfl (by kernel_rfl) (by kernel_rfl) (by kernel_rfl) (fun _ _ _ h => h) (Or.inl ⟨by rfl, ?_⟩) HH.out ?_
    rotate_left
    · intro wS hSw
      try dsimp only at hSw
      go_simp
      all_goals (with_reducible rfl)
    simp only [Act.put, List.setIfInBounds_toArray, List.set_cons_zero, List.set_cons_succ]
    refine wpAnyH_take (i := 3) (oi := ⟨some _, _, _, _, _, _⟩) (v := ?_) rfl (by kernel_rfl) (by kernel_rfl) (by kernel_rfl) (fun _ _ _ h => h) (Or.inl ⟨by rfl, ?_⟩) HH.out ?_
    rotate_left
    · intro wS hSw
      try dsimp only at hSw
      go_simp
      all_goals (with_reducible rfl)
    simp only [Act.put, List.setIfInBounds_toArray, List.set_cons_zero, List.set_cons_succ]
    refine wpAnyH_take (i := 4) (oi := ⟨some _, _, _, _, _, _⟩) (v := ?_) rfl (by kernel_rfl) (by kernel_rfl) (by kernel_rfl) (fun _ _ _ h => h) (Or.inl ⟨by rfl, ?_⟩) HH.out ?_
    rotate_left
    · intro wS hSw
      try dsimp only at hSw
      go_simp
      all_goals (with_reducible rfl)
    simp only [Act.put, List.setIfInBounds_toArray, List.set_cons_zero, List.set_cons_succ]
    refine wpAnyH_ready (rs := [5]) (by kernel_rfl) (by simp) ?_
    refine AllReadyH.cons (o := ⟨none, .move (.const (.bool false)), _, _, _, _⟩) rfl (fun Kq hKq => ?_) AllReadyH.nil
    go_simp
    refine hKq.out _ _ HH.out (fun _ => ?_)
    clear hKq Kq
    refine wpAnyH_done (by kernel_rfl) ?_ _
    refine ⟨_, rfl, ?_⟩
    go_simp
    obtain ⟨t2, tm⟩ := box_set i2 (.int .i64 (L : Int))
    have t3 := box_mv i3 tm (by omega)
    have t4 := i4.mv tm (by omega)
    have t5 := i5.mv tm (by omega)
    have t6 := box_mv i6 tm (by omega)
    have t7 := box_mv i7 tm (by omega)
    have to : KeepsOthers W (W.setCell ⟨w2.heap.size, 0, none⟩ (.int .i64 (L : Int))).drew := (KeepsOthers.setCell W _ _).trans (KeepsOthers.drew _)
    have tz : (W.setCell ⟨w2.heap.size, 0, none⟩ (.int .i64 (L : Int))).drew.heap.size = W.heap.size := by simp [World.setCell]
    have tMW : Mv w (W.setCell ⟨w2.heap.size, 0, none⟩ (.int .i64 (L : Int))).drew l h := (mv_below hMW (tm.below (B := w.heap.size) (by omega) (by omega))).drew
    have t8 := t6.trans i6.symm
    have t9 := t7.trans i7.symm
    generalize W.setCell ⟨w2.heap.size, 0, none⟩ (.int .i64 (L : Int)) = E5 at *
    replace t2 : Boxed E5.drew w2.heap.size 3 (.int .i64 (L : Int)) := t2
    replace t3 : Boxed E5.drew w.heap.size 64 (.slice (some ⟨g, 0, none⟩) n n) := t3
    replace t4 : Row E5.drew l h .i64 3 (some ⟨g, 0, none⟩) n n (P ++ zs (n - P.length)) := t4.drewN 1
    replace t5 : Row E5.drew w1.heap.size w2.heap.size .i64 3 (some ⟨gD, 0, none⟩) nD capD D := t5.drewN 1
    replace t6 : Boxed E5.drew (w2.heap.size + 1) 24 (.slice (some ⟨gD, 0, none⟩) nD capD) := t6
    replace t7 : Boxed E5.drew (w2.heap.size + 1 + 1) 3 (.int .i64 ((2 : Nat) : Int)) := t7
    replace t8 : E5.drew.heap[w2.heap.size + 1]? = W.heap[w2.heap.size + 1]? := t8
    replace t9 : E5.drew.heap[w2.heap.size + 1 + 1]? = W.heap[w2.heap.size + 1 + 1]? := t9
    generalize E5.drew = W5 at *
    have c2 := t2.cell
    have c3 := t3.cell
    clear HH tm i4 hc2 hf2 cG cX hwr i1
    by_cases hLn : L < n
    · obtain ⟨u, hu, hu2, hu3, hu4⟩ := t4.there (j := L) hLn
      have HH := Lib.hid (show W5.drew.cell? ⟨w.heap.size, 0, none⟩ = some (.slice (some ⟨g, 0, none⟩) n n) ∧ W5.drew.cell? ⟨w2.heap.size, 0, none⟩ = some (.int .i64 (L : Int)) ∧ W5.drew.cell? ⟨gD, x * 2 + 1, none⟩ = some (.int .i64 X) from ⟨c3, c2, t5.cell HDX.out⟩)
      have hf5 : W5.drew.frozen? ⟨g, L, none⟩ = false := hu4
      have hc5 : W5.drew.cell? ⟨g, L, none⟩ = some (.int .i64 u) := hu3
      gi_wp2
      refine wpIn_region_last 6 (S := fun w' => w'.cell? ⟨w.heap.size, 0, none⟩ = some (.slice (some ⟨g, 0, none⟩) n n) ∧ w'.cell? ⟨w2.heap.size, 0, none⟩ = some (.int .i64 (L : Int)) ∧ w'.cell? ⟨gD, x * 2 + 1, none⟩ = some (.int .i64 X)) (by kernel_rfl) (by kernel_rfl) (fun _ _ h => h) (by kernel_rfl) (by kernel_rfl) ?_
      change wpAnyH _ _ _ _ _ _ _ _ (World.drew _)
      refine wpAnyH_take (i := 0) (oi := ⟨some _, _, _, _, _, _⟩) (v := ?_) rfl (by kernel_rfl) (by kernel_rfl) (by kernel_rfl) (fun _ _ _ h => h) (Or.inl ⟨by rfl, ?_⟩) HH.out ?_
      rotate_left
      · intro wS hSw
        try dsimp only at hSw
        go_simp
        all_goals (with_reducible rfl)
      simp only [Act.put, List.setIfInBounds_toArray, List.set_cons_zero, List.set_cons_succ]
      refine wpAnyH_take (i := 1) (oi := ⟨some _, _, _, _, _, _⟩) (v := ?_) rfl (by kernel_rfl) (by kernel_rfl) (by kernel_rfl) (fun _ _ _ h => h) (Or.inl ⟨by rfl, ?_⟩) HH.out ?_
      rotate_left
      · intro wS hSw
        try dsimp only at hSw
        go_simp
        all_goals (with_reducible rfl)
      simp only [Act.put, List.setIfInBounds_toArray, List.set_cons_zero, List.set_cons_succ]
      refine wpAnyH_take (i := 2) (oi := ⟨some _, _, _, _, _, _⟩) (v := ?_) rfl (by kernel_rfl) (by kernel_rfl) (by kernel_rfl) (fun _ _ _ h => h) (Or.inl ⟨by rfl, ?_⟩) HH.out ?_
      rotate_left
      · intro wS hSw
        try dsimp only at hSw
        go_simp
        all_goals (with_reducible rfl)
      simp only [Act.put, List.setIfInBounds_toArray, List.set_cons_zero, List.set_cons_succ]
      refine wpAnyH_take (i := 3) (oi := ⟨some _, _, _, _, _, _⟩) (v := ?_) rfl (by kernel_rfl) (by kernel_rfl) (by kernel_rfl) (fun _ _ _ h => h) (Or.inl ⟨by rfl, ?_⟩) HH.out ?_
      rotate_left
      · intro wS hSw
        try dsimp only at hSw
        go_simp
        all_goals (with_reducible rfl)
      simp only [Act.put, List.setIfInBounds_toArray, List.set_cons_zero, List.set_cons_succ]
      refine wpAnyH_take (i := 4) (oi := ⟨some _, _, _, _, _, _⟩) (v := ?_) rfl (by kernel_rfl) (by kernel_rfl) (by kernel_rfl) (fun _ _ _ h => h) (Or.inl ⟨by rfl, ?_⟩) HH.out ?_
      rotate_left
      · intro wS hSw
        try dsimp only at hSw
        go_simp
        all_goals (with_reducible rfl)
      simp only [Act.put, List.setIfInBounds_toArray, List.set_cons_zero, List.set_cons_succ]
      refine wpAnyH_take (i := 5) (oi := ⟨some _, _, _, _, _, _⟩) (v := ?_) rfl (by kernel_rfl) (by kernel_rfl) (by kernel_rfl) (fun _ _ _ h => h) (Or.inl ⟨by rfl, ?_⟩) HH.out ?_
      rotate_left
      · intro wS hSw
        try dsimp only at hSw
        go_simp
        all_goals (with_reducible rfl)
      simp only [Act.put, List.setIfInBounds_toArray, List.set_cons_zero, List.set_cons_succ]
      refine wpAnyH_ready (rs := [6]) (by kernel_rfl) (by simp) ?_
      refine AllReadyH.cons (o := ⟨none, .move (.const (.bool false)), _, _, _, _⟩) rfl (fun Kq hKq => ?_) AllReadyH.nil
      go_simp
      refine hKq.out _ _ HH.out (fun _ => ?_)
      clear hKq Kq
      refine wpAnyH_done (by kernel_rfl) ?_ _
      refine ⟨_, rfl, ?_⟩
      go_simp
      obtain ⟨s4, sm⟩ := t4.set (j := L) (x := X) hLn (fits_i64.2 (by omega))
      have hPG : P.length + G < n := by rw [← HL.out]; exact hLn
      rw [show (P ++ zs (n - P.length)).set L X = (P ++ zs G ++ [X]) ++ zs (n - (P ++ zs G ++ [X]).length) by rw [HL.out]; exact zs_set hPG] at s4
      have s2 := box_mv t2 sm (by omega)
      have s3 := box_mv t3 sm (by omega)
      have s5 := t5.mv sm (by omega)
      have s6 := box_mv t6 sm (by omega)
      have s7 := box_mv t7 sm (by omega)
      have so := to.trans ((KeepsOthers.setCell W5 ⟨g, L, none⟩ (.int .i64 X)).trans (KeepsOthers.drew _))
      have sz : (W5.setCell ⟨g, L, none⟩ (.int .i64 X)).drew.heap.size = W5.heap.size := by simp [World.setCell]
      have sMW : Mv w (W5.setCell ⟨g, L, none⟩ (.int .i64 X)).drew l h := (tMW.trans sm).drew
      clear HH hc5 hf5 hu hu2 hu3 hu4 sm t2 t3 t4 t5 t6 t7 to tMW c2 c3 t8 t9
      generalize W5.setCell ⟨g, L, none⟩ (.int .i64 X) = E6 at *
      replace s2 : Boxed E6.drew w2.heap.size 3 (.int .i64 (L : Int)) := s2
      replace s3 : Boxed E6.drew w.heap.size 64 (.slice (some ⟨g, 0, none⟩) n n) := s3
      replace s4 : Row E6.drew l h .i64 3 (some ⟨g, 0, none⟩) n n ((P ++ zs G ++ [X]) ++ zs (n - (P ++ zs G ++ [X]).length)) := s4.drewN 1
      replace s5 : Row E6.drew w1.heap.size w2.heap.size .i64 3 (some ⟨gD, 0, none⟩) nD capD D := s5.drewN 1
      replace s6 : Boxed E6.drew (w2.heap.size + 1) 24 (.slice (some ⟨gD, 0, none⟩) nD capD) := s6
      replace s7 : Boxed E6.drew (w2.heap.size + 1 + 1) 3 (.int .i64 ((2 : Nat) : Int)) := s7
      generalize E6.drew = W6 at *
      have c2 := s2.cell
      have f2 := s2.frozen
      obtain ⟨v2, vm⟩ := box_set s2 (.int .i64 ((L : Int) + 1))
      have v3 := box_mv s3 vm (by omega)
      have v4 := s4.mv vm (by omega)
      have v5 := s5.mv vm (by omega)
      have v6 := box_mv s6 vm (by omega)
      have v7 := box_mv s7 vm (by omega)
      have vo := so.trans (KeepsOthers.setCell W6 ⟨w2.heap.size, 0, none⟩ (.int .i64 ((L : Int) + 1)))
      have vz : (W6.setCell ⟨w2.heap.size, 0, none⟩ (.int .i64 ((L : Int) + 1))).heap.size = W6.heap.size := by simp [World.setCell]
      have vMW : Mv w (W6.setCell ⟨w2.heap.size, 0, none⟩ (.int .i64 ((L : Int) + 1))) l h := mv_below sMW (vm.below (B := w.heap.size) (by omega) (by omega))
      have hlen : (P ++ zs G ++ [X]).length = L + 1 := by rw [HL.out]; simp [zs]; omega
      have HLen := Lib.hid hlen
      have hst : stepsP n ((pre ++ [(⟨x, hx⟩ : Fin (cuts 2 nD))]).map fun i => pr D i.val) = some (P ++ zs G ++ [X]) := by
        rw [HPR.out, steps_snoc, i0, step_yes (by show P.length + (G : Int).toNat < n; rw [Int.toNat_natCast]; exact hPG)]
        rfl
      have HST := Lib.hid hst
      clear hlen hst hPG vm s2 s3 s4 s5 s6 s7 so sMW
      gi_wp2
      refine ⟨vo.from _, ⟨v6.trans i6.symm, v7.trans i7.symm⟩, ⟨_, HST.out, by rw [HLen.out]; omega, by rw [HLen.out]; exact v2, v3, v4, v5, v6, v7, by omega⟩, vMW⟩
    · gi_wp2
      exact ⟨to.from _, ⟨rfl, P, pre, ⟨x, hx⟩, rfl, i0, by show ¬ P.length + (pr D x).1.toNat < n; rw [← HP.out]; show ¬ P.length + (G : Int).toNat < n; rw [Int.toNat_natCast, ← HL.out]; exact hLn, t4⟩, tMW⟩
  case done =>
    rintro Dd zs' W hD rfl ⟨⟨P, i0, i1, i2, i3, i4, i5, i6, i7, i8⟩, hMW⟩ hK
    have hfin := i4.kc (kc_of (grownBy_putObj' W Dd (.deferred none)) (fun r e => by cases e; exact ⟨_, hK, rfl⟩))
    have hb9 := mv_below hMW (belowK_b (w := w) (Nat.le_refl _) W Dd _ (.deferred none) (by omega) hK rfl rfl)
    have hE : fillF 1 b i n = P ++ zs (n - P.length) := by
      rw [HF.out, ← fill_done i0]
      have e2 : (List.finRange (cuts 2 nD)).map (fun i => pr D i.val) = (List.range c).map (pr D) := by rw [fin_all, HCU.out]
      rw [e2, HFL.out]
    have HE := Lib.hid hE
    clear hE i4 i0
    gi_wp2
    refine ⟨by simp, .inl ⟨_, _, rfl, run_takeDeferred hK, ?_⟩⟩
    exact ⟨_, results_none rfl _ _ _, ⟨_, rfl⟩, by rw [HE.out]; exact hfin, hb9⟩
  case stop =>
    rintro Dd c' pre W hD hpre ⟨⟨rfl, P, pre', x, rfl, i0, i1, i2⟩, hMW⟩ hK
    have hfin := i2.kc (kc_of (grownBy_putObj' W Dd (.deferred none)) (fun r e => by cases e; exact ⟨_, hK, rfl⟩))
    have hb9 := mv_below hMW (belowK_b (w := w) (Nat.le_refl _) W Dd _ (.deferred none) (by omega) hK rfl rfl)
    have hE : fillF 1 b i n = P ++ zs (n - P.length) := by
      obtain ⟨rest, hrest⟩ := hpre
      have e2 : (List.finRange (cuts 2 nD)).map (fun i => pr D i.val) = (List.range c).map (pr D) := by rw [fin_all, HCU.out]
      rw [← hrest, List.map_append, List.map_append] at e2
      rw [HF.out, ← fill_stop i0 i1 (rest := rest.map fun i => pr D i.val)]
      rw [List.map_cons, List.map_nil] at e2
      rw [e2, HFL.out]
    have HE := Lib.hid hE
    clear hE i2 i0 i1
    gi_wp2
    refine ⟨by simp, .inl ⟨_, _, rfl, run_takeDeferred hK, ?_⟩⟩
    exact ⟨_, results_none rfl _ _ _, ⟨_, rfl⟩, by rw [HE.out]; exact hfin, hb9⟩
end Go.Proofs.Ytlgmiojlpnoiaaa.CoefI
namespace Go.Proofs.Ytlgmiojlpnoiaaa.CoefI
open Go.ChangeShapes Go.WideShapes Go.ChangeAt Go.RowKit
open Go.Proofs.Ytlgmiojlpnoiaaa.Seq Go.Proofs.Ytlgmiojlpnoiaaa.Help Go.Proofs.Ytlgmiojlpnoiaaa.Field Go.Proofs.Ytlgmiojlpnoiaaa.FieldW Go.Proofs.Ytlgmiojlpnoiaaa.Vec Go.Proofs.Ytlgmiojlpnoiaaa.VecW Go.Proofs.Ytlgmiojlpnoiaaa.VecOps Go.Proofs.Ytlgmiojlpnoiaaa.Uv Go.Proofs.Ytlgmiojlpnoiaaa.UvW Go.Proofs.Ytlgmiojlpnoiaaa.Rd Go.Proofs.Ytlgmiojlpnoiaaa.Enc Go.Proofs.Ytlgmiojlpnoiaaa.EncW Go.Proofs.Ytlgmiojlpnoiaaa.Back Go.Proofs.Ytlgmiojlpnoiaaa.Coef Go.Proofs.Ytlgmiojlpnoiaaa.CoefW

theorem decI_bad {b l : List Int} {q : Int} (h : dec b 0 2 = (l, q, false)) : decI b = ([], false) := by unfold decI; rw [h]; rfl
theorem decI_out {b : List Int} {q : Int} {f k : Nat} (h : dec b 0 2 = ([(f : Int), (k : Int)], q, true)) (h1 : ¬ (f ≤ 1 ∧ k ≤ 40)) : decI b = ([], false) := by
  unfold decI
  rw [h]
  simp only [List.getD_cons_zero, List.getD_cons_succ]
  have e : (true && ((decide ((0 : Int) ≤ f) && decide ((f : Int) ≤ 1)) && (decide ((0 : Int) ≤ k) && decide ((k : Int) ≤ 40)))) = false := by
    by_cases hf : f ≤ 1
    · have : ¬ k ≤ 40 := fun h => h1 ⟨hf, h⟩
      rw [decide_eq_false (show ¬ (k : Int) ≤ 40 by omega)]; simp
    · rw [decide_eq_false (show ¬ (f : Int) ≤ 1 by omega)]; simp
  rw [e]; rfl
theorem decI_in {b : List Int} {q : Int} {f k : Nat} (h : dec b 0 2 = ([(f : Int), (k : Int)], q, true)) (h1 : f ≤ 1) (h2 : k ≤ 40) : decI b = bif Eq.same (encF f (fillF f b q k)) b then (fillF f b q k, true) else ([], false) := by
  unfold decI
  rw [h]
  simp only [List.getD_cons_zero, List.getD_cons_succ, Int.toNat_natCast]
  rw [decide_eq_true (show (0 : Int) ≤ f by omega), decide_eq_true (show (f : Int) ≤ 1 by omega), decide_eq_true (show (0 : Int) ≤ k by omega), decide_eq_true (show (k : Int) ≤ 40 by omega)]
  rfl

/-- 'make([]T, n)' at a step of a region that draws its order. -/
theorem step_mk {P : Program} {w : World} {ops : Array Oper} {o : Oper} {a : Act} {K : Act → World → Prop} {Q : Exit → Act → World → Prop} {E : Prop} {k : IntKind} {e : TypeId} {n : Nat} {t : TypeId} (ht : P.underlying t = some (.slice e)) {bytes : Nat}
    (hinfo : (P.info? e).map (fun i => (i.zero, i.size, i.bytes)) = some (some (.int k 0), 1, bytes)) (hk : Fits k 0) (h63 : n ≤ maxLen) (hby : bytes * n ≤ 281474976710656)
    (hg : o.guard = none) (p q : Operand) (hop : o.op = Op.makeSlice t p q) {kl kc : IntKind} (hp : a.eval p = .int kl (n : Int)) (hq : a.eval q = .int kc (n : Int))
    (hK : ∀ w', Row w' w.heap.size w'.heap.size k e (some ⟨w.heap.size, 0, none⟩) n n (List.replicate n 0) → Below w.heap.size w w' → K (a.put o.dst (.slice (some ⟨w.heap.size, 0, none⟩) n n)) w') :
    if Region.wanted o (yielded ops a.tmps) = true then Oper.wp P o a w K Q else E := by
  have hw : Region.wanted o (yielded ops a.tmps) = true := by simp [Region.wanted, hg]
  rw [if_pos hw]
  obtain ⟨i, hi, hz, hs, hb⟩ := info_parts hinfo
  obtain ⟨w', hrun, ho, hgr⟩ := run_make_full (P := P) w w.heap.size t e i (.int k 0) 1 ht hi hz hs kl kc n (by rw [hb]; exact hby) h63 (Nat.le_refl _)
  have hr : Row w' w.heap.size w'.heap.size k e (some ⟨w.heap.size, 0, none⟩) n n (List.replicate n 0) := by
    refine ⟨by simp, Nat.le_refl _, h63, fun x hx => by rw [List.eq_of_mem_replicate hx]; exact hk, .inr ⟨_, rfl, Nat.le_refl _, owns_lt ho, ?_⟩⟩
    have e1 : (madeCells (Value.int k 0).cells (n * 1)).toList = (List.replicate n (0 : Int)).map (.int k) := by
      rw [List.map_replicate, Nat.mul_one]
      exact toList_madeCells_one _ _
    rw [e1] at ho
    exact ho
  have h := hK w' hr ⟨hgr.os, hgr.tape, hgr.output, hgr.size, fun k hk => hgr.block k hk (by simp)⟩
  unfold Oper.wp
  simp [execOp, hop, hp, hq, hrun, Result.andThen]
  exact h

set_option maxRecDepth 100000 in
set_option maxHeartbeats 1600000 in
theorem decC (w : World) {l h : Nat} {ad : Option Addr} {n cap : Nat} {xs : List Int} (s : Sl w l h .u8 ad n cap xs) (hn : n ≤ 17592186044416) :
    Calls Try.prog 14 #[.slice ad n cap] w (GivesT .i64 3 (decS xs).1 [.bool (decS xs).2] w) := by
  rw [← dec_same s.fits]
  replace s := s.lt (Nat.le_refl _)
  have HL := Lib.hid s.len
  obtain ⟨R, hR⟩ : ∃ R, R = decI xs := ⟨_, rfl⟩
  rw [← hR]
  have HR := Lib.hid hR
  clear hR
  obtain ⟨⟨L, q, ok⟩, hd⟩ : ∃ r : List Int × Int × Bool, dec xs 0 2 = r := ⟨_, rfl⟩
  have hC := EncW.impl_dec w s hn 0 (by omega) (by omega) 2 (by omega) (by omega)
  rw [hd] at hC
  have HC := Lib.hid hC
  clear hC
  have HS := Lib.hid (fun (w' : World) (x : Below w.heap.size w w') => s.below x (.inr (Nat.le_refl _)))
  cases ok
  · have HE := Lib.hid (HR.out.trans (decI_bad hd))
    clear hd s
    go_enter Try.func14, Try.ntmps14
    go_wp2_with fail
    go_at_call 48
    refine HC.out.mono ?_
    rintro e w1 ⟨ad1, n1, cap1, rfl, r1, b1⟩
    have HB := Lib.hid (fun o => b1.alloc b1.size o)
    clear b1 r1
    go_wp2
    go_ret2
    exact givesB_of HE.out (Row.nil _ _ _ _ _ _) (HB.out _)
  obtain ⟨k1, k2, k3, k4, k5, k6, k7, k8⟩ := dec_back s.fits hd
  obtain ⟨f, k, rfl⟩ := two k7
  obtain ⟨hf0, hf1⟩ := k1 f (by simp)
  obtain ⟨hk0, hk1⟩ := k1 k (by simp)
  obtain ⟨f, rfl⟩ : ∃ g' : Nat, f = g' := ⟨f.toNat, by omega⟩
  obtain ⟨k, rfl⟩ : ∃ g' : Nat, k = g' := ⟨k.toNat, by omega⟩
  obtain ⟨q, rfl⟩ : ∃ g' : Nat, q = g' := ⟨q.toNat, by omega⟩
  rw [HL.out] at k4
  clear k1 k2 k3 k5 k6 k7 k8
  by_cases hin : f ≤ 1 ∧ k ≤ 40
  · obtain ⟨hf, hk⟩ := hin
    have HE := Lib.hid (HR.out.trans (decI_in hd hf hk))
    clear hd s
    go_enter Try.func14, Try.ntmps14
    go_wp2_with fail
    go_at_call 48
    refine HC.out.mono ?_
    rintro e w1 ⟨ad1, n1, cap1, rfl, r1, b1⟩
    obtain rfl : 2 = n1 := r1.len
    have hcap1 := r1.le
    obtain ⟨g1, rfl, l1, l2⟩ := r1.pos (by omega)
    have c0 := r1.cell (j := 0) rfl
    have c1 := r1.cell (j := 1) rfl
    go_wp2_with fail
    go_at_call 49
    refine (inRange_yes _ _ _ _ (by omega) (by omega)).mono ?_
    rintro e w' ⟨rfl, rfl⟩
    go_wp2_with fail
    go_at_call 49
    refine (inRange_yes _ _ _ _ (by omega) (by omega)).mono ?_
    rintro e w' ⟨rfl, rfl⟩
    go_wp2
    have HH := Lib.hid (show w1.drew.cell? ⟨g1, 0, none⟩ = some (.int .i64 (f : Int)) ∧ w1.drew.cell? ⟨g1, 1, none⟩ = some (.int .i64 (k : Int)) from ⟨c0, c1⟩)
    refine wp_region_held (S := fun w' => w'.cell? ⟨g1, 0, none⟩ = some (.int .i64 (f : Int)) ∧ w'.cell? ⟨g1, 1, none⟩ = some (.int .i64 (k : Int))) (by kernel_rfl) ?_
    change wpAnyH _ _ _ _ _ _ _ _ (World.drew _)
    have b1D := b1.drew
    have r1D : Row w1.drew w.heap.size w1.heap.size .i64 3 (some ⟨g1, 0, none⟩) 2 cap1 [(f : Int), (k : Int)] := r1.drewN 1
    have z1 : w1.drew.heap.size ≤ w1.heap.size ∧ w1.heap.size ≤ w1.drew.heap.size := ⟨Nat.le_refl _, Nat.le_refl _⟩
    have z0 := b1.size
    clear b1 r1 c0 c1
    generalize w1.drew = E at *
    refine wpAnyH_take (i := 0) (oi := ⟨some _, _, _, _, _, _⟩) (v := ?_) rfl (by kernel_rfl) (by kernel_rfl) (by kernel_rfl) (fun _ _ _ h => h) (Or.inl ⟨by rfl, ?_⟩) HH.out ?_
    rotate_left
    · intro wS hSw
      try dsimp only at hSw
      go_simp
      all_goals (with_reducible rfl)
    simp only [Act.put, List.setIfInBounds_toArray, List.set_cons_zero, List.set_cons_succ]
    refine wpAnyH_take (i := 1) (oi := ⟨some _, _, _, _, _, _⟩) (v := ?_) rfl (by kernel_rfl) (by kernel_rfl) (by kernel_rfl) (fun _ _ _ h => h) (Or.inl ⟨by rfl, ?_⟩) HH.out ?_
    rotate_left
    · intro wS hSw
      try dsimp only at hSw
      go_simp
      all_goals (with_reducible rfl)
    simp only [Act.put, List.setIfInBounds_toArray, List.set_cons_zero, List.set_cons_succ]
    refine wpAnyH_take (i := 2) (oi := ⟨some _, _, _, _, _, _⟩) (v := ?_) rfl (by kernel_rfl) (by kernel_rfl) (by kernel_rfl) (fun _ _ _ h => h) (Or.inl ⟨by rfl, ?_⟩) HH.out ?_
    rotate_left
    · intro wS hSw
      try dsimp only at hSw
      go_simp
      all_goals (with_reducible rfl)
    simp only [Act.put, List.setIfInBounds_toArray, List.set_cons_zero, List.set_cons_succ]
    refine wpAnyH_take (i := 3) (oi := ⟨some _, _, _, _, _, _⟩) (v := ?_) rfl (by kernel_rfl) (by kernel_rfl) (by kernel_rfl) (fun _ _ _ h => h) (Or.inl ⟨by rfl, ?_⟩) HH.out ?_
    rotate_left
    · intro wS hSw
      try dsimp only at hSw
      go_simp
      all_goals (with_reducible rfl)
    simp only [Act.put, List.setIfInBounds_toArray, List.set_cons_zero, List.set_cons_succ]
    refine wpAnyH_take (i := 4) (oi := ⟨some _, _, _, _, _, _⟩) (v := ?_) rfl (by kernel_rfl) (by kernel_rfl) (by kernel_rfl) (fun _ _ _ h => h) (Or.inl ⟨by rfl, ?_⟩) HH.out ?_
    rotate_left
    · intro wS hSw
      try dsimp only at hSw
      go_simp
      all_goals (with_reducible rfl)
    simp only [Act.put, List.setIfInBounds_toArray, List.set_cons_zero, List.set_cons_succ]
    refine wpAnyH_take (i := 5) (oi := ⟨some _, _, _, _, _, _⟩) (v := ?_) rfl (by kernel_rfl) (by kernel_rfl) (by kernel_rfl) (fun _ _ _ h => h) (Or.inl ⟨by rfl, ?_⟩) HH.out ?_
    rotate_left
    · intro wS hSw
      try dsimp only at hSw
      go_simp
      all_goals (with_reducible rfl)
    simp only [Act.put, List.setIfInBounds_toArray, List.set_cons_zero, List.set_cons_succ]
    refine wpAnyH_take (i := 7) (oi := ⟨some _, _, _, _, _, _⟩) (v := ?_) rfl (by kernel_rfl) (by kernel_rfl) (by kernel_rfl) (fun _ _ _ h => h) (Or.inl ⟨by rfl, ?_⟩) HH.out ?_
    rotate_left
    · intro wS hSw
      try dsimp only at hSw
      go_simp
      all_goals (with_reducible rfl)
    simp only [Act.put, List.setIfInBounds_toArray, List.set_cons_zero, List.set_cons_succ]
    refine wpAnyH_ready (rs := [6]) (by kernel_rfl) (by simp) ?_
    refine AllReadyH.cons (o := ⟨some _, _, _, _, _, _⟩) rfl (fun Kq hKq => ?_) AllReadyH.nil
    refine step_mk Try.underlying24 info_int (fits_i64.2 (by omega)) (by unfold maxLen; omega) (by omega) rfl _ _ rfl rfl rfl ?_
    intro E1 r2 b2
    have z2 := b2.size
    have hb2 := b1D.trans (b2.mono (by omega))
    have r1' := r1D.below b2 (.inl (by omega))
    clear HH b2 b1D r1D
    have HH := Lib.hid (show E1.cell? ⟨g1, 0, none⟩ = some (.int .i64 (f : Int)) ∧ E1.cell? ⟨g1, 1, none⟩ = some (.int .i64 (k : Int)) from ⟨r1'.cell (j := 0) rfl, r1'.cell (j := 1) rfl⟩)
    refine hKq.out _ _ HH.out (fun _ => ?_)
    clear hKq Kq
    refine wpAnyH_take (i := 8) (oi := ⟨some _, _, _, _, _, _⟩) (v := ?_) rfl (by kernel_rfl) (by kernel_rfl) (by kernel_rfl) (fun _ _ _ h => h) (Or.inl ⟨by rfl, ?_⟩) HH.out ?_
    rotate_left
    · intro wS hSw
      try dsimp only at hSw
      go_simp
      all_goals (with_reducible rfl)
    simp only [Act.put, List.setIfInBounds_toArray, List.set_cons_zero, List.set_cons_succ]
    refine wpAnyH_done (by kernel_rfl) ?_ _
    have HEs := Lib.hid (HS.out E1 hb2)
    have hkl : k ≤ 40 := hk
    clear HH r1'
    have hp3 : f = 0 ∨ f = 1 := by omega
    rcases hp3 with rfl | rfl
    · go_wp2_with fail
      go_at_call 50
      refine (forms E1).mono ?_
      rintro e w4 ⟨rfl, b4⟩
      have z4 := b4.size
      have r4 := r2.below b4 (.inl (Nat.le_refl _))
      have hb4 := hb2.trans (b4.mono (by omega))
      have s4 := HS.out w4 hb4
      clear b4 r2
      have hp := pick0
      have hp2 := fill0
      unfold table at hp ⊢
      go_wp2_with fail
      go_at_call 65
      refine (fillAll w4 r4 hkl s4 hn q (by omega)).mono ?_
      rintro e w5 ⟨⟨v5, rfl⟩, r5, m5⟩
      have z5 := m5.size
      have hb5 := hb4.trans (m5.below (by omega) (by omega))
      have hFn : Hid (fillF (0 : Nat) xs q k = fillF 0 xs q k) := rfl
      have HE2 := Lib.hid (show R = bif Eq.same (Coef.encD (fillF 0 xs q k)) xs then (fillF 0 xs q k, true) else ([], false) from HE.out)
      generalize fillF 0 xs q k = V at *
      clear m5 r4 s4 hp hp2 hFn HE
      go_wp2_with fail
      go_at_call 52
      refine (formD w5 r5.sl).mono ?_
      rintro e w6 ⟨ad6, n6, cap6, rfl, r6, b6⟩
      have z6 := b6.size
      have r5' := r5.below b6 (.inl (by omega))
      have hb6 := hb5.trans (b6.mono (by omega))
      have s6 := HS.out w6 hb6
      clear b6
      go_wp2_with fail
      go_at_call 51
      refine (Eq.impl_eqB w6 r6.sl s6).mono ?_
      rintro e w7 ⟨rfl, b7⟩
      have z7 := b7.size
      have r7 := r5'.below b7 (.inl (by omega))
      have hb7 := hb6.trans (b7.mono (by omega))
      have HB := Lib.hid (fun o => hb7.alloc (by omega) o)
      clear b7
      have HR7 := Lib.hid ((r7.lo (l' := w.heap.size) (by omega)).mono (h' := w7.heap.size) (by omega))
      clear r5 r5' r6 s6 r7
      generalize Eq.same (Coef.encD V) xs = B at *
      cases B
      · rw [cond_false] at HE2
        go_wp2
        go_ret2
        exact givesB_of HE2.out (Row.nil _ _ _ _ _ _) (HB.out _)
      · rw [cond_true] at HE2
        go_wp2
        go_ret2
        exact givesB_of HE2.out HR7.out hb7
    · go_wp2_with fail
      go_at_call 50
      refine (forms E1).mono ?_
      rintro e w4 ⟨rfl, b4⟩
      have z4 := b4.size
      have r4 := r2.below b4 (.inl (Nat.le_refl _))
      have hb4 := hb2.trans (b4.mono (by omega))
      have s4 := HS.out w4 hb4
      clear b4 r2
      have hp := pick1
      have hp2 := fill1
      unfold table at hp ⊢
      go_wp2_with fail
      go_at_call 67
      refine (fillNonzero w4 r4 (by omega) hkl s4 hn q (by omega)).mono ?_
      rintro e w5 ⟨⟨v5, rfl⟩, r5, m5⟩
      have z5 := m5.size
      have hb5 := hb4.trans (m5.below (by omega) (by omega))
      have hFn : Hid (fillF (1 : Nat) xs q k = fillF 1 xs q k) := rfl
      have HE2 := Lib.hid (show R = bif Eq.same (Coef.encS (fillF 1 xs q k)) xs then (fillF 1 xs q k, true) else ([], false) from HE.out)
      generalize fillF 1 xs q k = V at *
      clear m5 r4 s4 hp hp2 hFn HE
      go_wp2_with fail
      go_at_call 52
      refine (formS w5 r5.sl).mono ?_
      rintro e w6 ⟨ad6, n6, cap6, rfl, r6, b6⟩
      have z6 := b6.size
      have r5' := r5.below b6 (.inl (by omega))
      have hb6 := hb5.trans (b6.mono (by omega))
      have s6 := HS.out w6 hb6
      clear b6
      go_wp2_with fail
      go_at_call 51
      refine (Eq.impl_eqB w6 r6.sl s6).mono ?_
      rintro e w7 ⟨rfl, b7⟩
      have z7 := b7.size
      have r7 := r5'.below b7 (.inl (by omega))
      have hb7 := hb6.trans (b7.mono (by omega))
      have HB := Lib.hid (fun o => hb7.alloc (by omega) o)
      clear b7
      have HR7 := Lib.hid ((r7.lo (l' := w.heap.size) (by omega)).mono (h' := w7.heap.size) (by omega))
      clear r5 r5' r6 s6 r7
      generalize Eq.same (Coef.encS V) xs = B at *
      cases B
      · rw [cond_false] at HE2
        go_wp2
        go_ret2
        exact givesB_of HE2.out (Row.nil _ _ _ _ _ _) (HB.out _)
      · rw [cond_true] at HE2
        go_wp2
        go_ret2
        exact givesB_of HE2.out HR7.out hb7
  · have HE := Lib.hid (HR.out.trans (decI_out hd hin))
    clear hd s
    go_enter Try.func14, Try.ntmps14
    go_wp2_with fail
    go_at_call 48
    refine HC.out.mono ?_
    rintro e w1 ⟨ad1, n1, cap1, rfl, r1, b1⟩
    obtain rfl : 2 = n1 := r1.len
    have hcap1 := r1.le
    obtain ⟨g1, rfl, l1, l2⟩ := r1.pos (by omega)
    have c0 := r1.cell (j := 0) rfl
    have c1 := r1.cell (j := 1) rfl
    have HB := Lib.hid (fun o => b1.alloc b1.size o)
    clear b1 r1
    by_cases hf : f ≤ 1
    · have hk : ¬ k ≤ 40 := fun h => hin ⟨hf, h⟩
      have HX := Lib.hid (show ¬ ((0 : Int) ≤ k ∧ (k : Int) ≤ 40) by omega)
      clear hin
      go_wp2_with fail
      go_at_call 49
      refine (inRange_yes _ _ _ _ (by omega) (by omega)).mono ?_
      rintro e w' ⟨rfl, rfl⟩
      go_wp2_with fail
      go_at_call 49
      refine (inRange_no _ _ _ _ HX.out).mono ?_
      rintro e w' ⟨rfl, rfl⟩
      go_wp2
      go_ret2
      exact givesB_of HE.out (Row.nil _ _ _ _ _ _) (HB.out _)
    · have HX := Lib.hid (show ¬ ((0 : Int) ≤ f ∧ (f : Int) ≤ 1) by omega)
      clear hin
      go_wp2_with fail
      go_at_call 49
      refine (inRange_no _ _ _ _ HX.out).mono ?_
      rintro e w' ⟨rfl, rfl⟩
      go_wp2
      go_ret2
      exact givesB_of HE.out (Row.nil _ _ _ _ _ _) (HB.out _)
end Go.Proofs.Ytlgmiojlpnoiaaa.CoefI
namespace Go.Proofs.Ytlgmiojlpnoiaaa.CoefI
open Go.ChangeShapes Go.WideShapes Go.ChangeAt Go.RowKit
open Go.Proofs.Ytlgmiojlpnoiaaa.Seq Go.Proofs.Ytlgmiojlpnoiaaa.Help Go.Proofs.Ytlgmiojlpnoiaaa.VecOps Go.Proofs.Ytlgmiojlpnoiaaa.Coef Go.Proofs.Ytlgmiojlpnoiaaa.CoefW

theorem spec_coef (w : World) {l h : Nat} {ad : Option Addr} {n cap : Nat} {xs : List Int} (s : Sl w l h .i64 ad n cap xs) (hn : n ≤ 1048576) :
    Calls Try.prog 36 #[.slice ad n cap] w (Gives .u8 5 (Coef.coef xs) w) :=
  spec_coef_of (fun w _ _ _ _ _ _ s _ => spec_encD w s) (fun w _ _ _ _ _ _ s _ => spec_encS w s) w s hn
theorem coef (w : World) {l h : Nat} {ad : Option Addr} {n cap : Nat} {xs : List Int} (s : Sl w l h .i64 ad n cap xs) (hn : n ≤ 1048576) :
    Calls Try.prog 20 #[.slice ad n cap] w (Gives .u8 5 (Coef.coef xs) w) :=
  impl_coef_of (fun w _ _ _ _ _ _ s _ => CoefI.encD w s) (fun w _ _ _ _ _ _ s _ => CoefI.encS w s) w s hn
theorem spec_size (w : World) {l h : Nat} {ad : Option Addr} {n cap : Nat} {xs : List Int} (s : Sl w l h .i64 ad n cap xs) (hn : n ≤ 1048576) :
    Calls Try.prog 39 #[.slice ad n cap] w (SaysI ((Coef.coef xs).length : Nat) w) := spec_size_of (fun w _ _ _ _ _ _ s h => spec_coef w s h) w s hn
theorem size (w : World) {l h : Nat} {ad : Option Addr} {n cap : Nat} {xs : List Int} (s : Sl w l h .i64 ad n cap xs) (hn : n ≤ 1048576) :
    Calls Try.prog 21 #[.slice ad n cap] w (SaysI ((Coef.coef xs).length : Nat) w) := impl_size_of (fun w _ _ _ _ _ _ s h => coef w s h) w s hn
end Go.Proofs.Ytlgmiojlpnoiaaa.CoefI
