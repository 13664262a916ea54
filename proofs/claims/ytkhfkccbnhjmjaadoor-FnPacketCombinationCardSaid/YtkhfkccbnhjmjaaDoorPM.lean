/-
  The laws' helpers over slices of structs, as values of any shape (printed by gen_shape.py).
  A list of structs that grows by append: each element's own memory in an interval of its own, the list's block in none of them. No program.
  The model's chapter 10: generations' parts, bytes to symbols.
  The model's chapter 10: the parts of a generation.
  The model's chapter 10: symbols to bytes.
  Lists of generations in memory.
  The model's SplitMessage.
  The model's JoinGenerations.
  What the laws of chapter 10 ask of the program's functions; and the model's contracts as the exact laws take them.
  Coded packets as lists: what the functions of chapter 11 answer. No program.
  What the laws of chapter 11 ask of the program's functions.
  Chapter 11's answers are small.
  What the laws of chapter 11 ask, of lists. No program.
  Combinations of consistent packets are consistent. No program.
  Coded packets encoded and decoded, of lists: each restores the other. No program.
  The model's chapter 11: valid, equal, zero packets.
  The model's chapter 11: coded packets of a generation.
  The model's chapter 11: source packets.
  The model's chapter 11: consistent packets.
  The model's chapter 11: packets encoded.
  The model's chapter 11: packets decoded.
  The model's chapter 11: packets combined.
  The model's chapter 11: all of it.
-/
import Derived.Test.YtkhfkccbnhjmjaaDoorPF
import Derived.Test.YtkhfkccbnhjmjaaDoorPA
import Derived.Test.YtkhfkccbnhjmjaaDoorPE
import Derived.Test.YtkhfkccbnhjmjaaDoorPC
import Derived.Test.YtkhfkccbnhjmjaaDoorPB
import Derived.Lib.LaidTab
import Derived.Lib.ItoaNum
import Derived.Deep.RegionHeld3
namespace Go.Proofs.YtkhfkccbnhjmjaaDoor.Deep
open Go.ChangeShapes Go.WideShapes Go.ChangeAt Go.RowKit
open Go.Proofs.YtkhfkccbnhjmjaaDoor.Drawn Go.Proofs.YtkhfkccbnhjmjaaDoor.Seq Go.Proofs.YtkhfkccbnhjmjaaDoor.Help Go.Proofs.YtkhfkccbnhjmjaaDoor.Shape
end Go.Proofs.YtkhfkccbnhjmjaaDoor.Deep
namespace Go.Proofs.YtkhfkccbnhjmjaaDoor.Shape
open Go.ChangeShapes Go.WideShapes Go.ChangeAt Go.RowKit
open Go.Proofs.YtkhfkccbnhjmjaaDoor.Seq Go.Proofs.YtkhfkccbnhjmjaaDoor.Help Go.Proofs.YtkhfkccbnhjmjaaDoor.Deep
section
variable {w w' : World} {l h l' h' B : Nat} {v : Value} {x : (T.l tBas).den}
end
section
variable {w : World} {l h l2 h2 : Nat} {v v2 : Value}
end
end Go.Proofs.YtkhfkccbnhjmjaaDoor.Shape
namespace Go.Proofs.YtkhfkccbnhjmjaaDoor.Deep
open Go.RowKit Go.WideShapes Go.Proofs.YtkhfkccbnhjmjaaDoor.Seq

section
variable {w w' : World} {lo n cap : Nat} {e : TypeId} {t : T} {ad : Option Addr} {us vs : List Value} {xs : List t.den} {x : t.den}
end
end Go.Proofs.YtkhfkccbnhjmjaaDoor.Deep
namespace Go.Proofs.YtkhfkccbnhjmjaaDoor.GenW
open Go.ChangeShapes Go.WideShapes Go.ChangeAt Go.RowKit
open Go.Proofs.YtkhfkccbnhjmjaaDoor.Seq Go.Proofs.YtkhfkccbnhjmjaaDoor.Help Go.Proofs.YtkhfkccbnhjmjaaDoor.Field Go.Proofs.YtkhfkccbnhjmjaaDoor.FieldW Go.Proofs.YtkhfkccbnhjmjaaDoor.Vec Go.Proofs.YtkhfkccbnhjmjaaDoor.VecW Go.Proofs.YtkhfkccbnhjmjaaDoor.Mat Go.Proofs.YtkhfkccbnhjmjaaDoor.MatW Go.Proofs.YtkhfkccbnhjmjaaDoor.Uv Go.Proofs.YtkhfkccbnhjmjaaDoor.UvW Go.Proofs.YtkhfkccbnhjmjaaDoor.Shape Go.Proofs.YtkhfkccbnhjmjaaDoor.Gen

end Go.Proofs.YtkhfkccbnhjmjaaDoor.GenW
namespace Go.Proofs.YtkhfkccbnhjmjaaDoor.GenW
open Go.ChangeShapes Go.WideShapes Go.ChangeAt Go.RowKit
open Go.Proofs.YtkhfkccbnhjmjaaDoor.Seq Go.Proofs.YtkhfkccbnhjmjaaDoor.Help Go.Proofs.YtkhfkccbnhjmjaaDoor.Field Go.Proofs.YtkhfkccbnhjmjaaDoor.FieldW Go.Proofs.YtkhfkccbnhjmjaaDoor.Vec Go.Proofs.YtkhfkccbnhjmjaaDoor.VecW Go.Proofs.YtkhfkccbnhjmjaaDoor.Mat Go.Proofs.YtkhfkccbnhjmjaaDoor.MatW Go.Proofs.YtkhfkccbnhjmjaaDoor.Shape Go.Proofs.YtkhfkccbnhjmjaaDoor.Gen

set_option maxHeartbeats 1600000 in
theorem spec_isGen (w : World) {l h : Nat} {v : Value} {b : Bs} (s : BasisI w l h v b) : Calls Tryd.prog 10 #[v] w (Says (.bool (isGen b)) w) := by
  obtain ⟨W, rows⟩ := b
  obtain ⟨u, rfl, hw, ad, n, cap, rfl, s⟩ := s
  dsimp only at hw
  have hbig := s.big
  have hcap := s.le
  unfold maxLen at hbig
  have hB := Blk.new w (.int .i64 W) (.slice ad n cap) 26
  have hb := below_box w (.cells #[.int .i64 W, .slice ad n cap] 26)
  have HF := Lib.hid (show isGen (W, rows) = ((((decide (0 ≤ W) && decide (W ≤ 1000000000000)) && (decide ((1 : Int) ≤ n) && decide ((n : Int) ≤ 8))) && isMat rows) && (decide ((1 : Int) ≤ colsOf rows) && decide ((colsOf rows : Int) ≤ 16))) by
    unfold isGen
    have e1 : decide (1 ≤ rows.length) = decide ((1 : Int) ≤ n) := by rw [s.len]; apply decide_eq_decide.2; omega
    have e2 : decide (rows.length ≤ 8) = decide ((n : Int) ≤ 8) := by rw [s.len]; apply decide_eq_decide.2; omega
    have e3 : decide (1 ≤ colsOf rows) = decide ((1 : Int) ≤ colsOf rows) := by apply decide_eq_decide.2; omega
    have e4 : decide (colsOf rows ≤ 16) = decide ((colsOf rows : Int) ≤ 16) := by apply decide_eq_decide.2; omega
    dsimp only
    rw [e1, e2, e3, e4])
  have H1 := Lib.hid (fun w' : World => l1In_is w' W 0 1000000000000)
  have H2 := Lib.hid (fun w' : World => l1In_is w' n 1 8)
  have H3 := Lib.hid (fun (w' : World) (t : Sls w' l h ad n cap rows) => spec_isMat w' t)
  have H4 := Lib.hid (fun (w' : World) (t : Sls w' l h ad n cap rows) => spec_cols w' t)
  have H5 := Lib.hid (fun w' : World => l1In_is w' (colsOf rows) 1 16)
  have hS := s.below hb (.inr (Nat.le_refl _))
  have HS := Lib.hid hS
  have c0 := hB.c0
  have c1 := hB.c1
  have HB := Lib.hid hb
  clear s hB hb hS
  generalize (decide (0 ≤ W) && decide (W ≤ 1000000000000)) = B1 at *
  generalize (decide ((1 : Int) ≤ n) && decide ((n : Int) ≤ 8)) = B2 at *
  generalize isMat rows = B3 at *
  generalize (decide ((1 : Int) ≤ colsOf rows) && decide ((colsOf rows : Int) ≤ 16)) = B4 at *
  generalize colsOf rows = C at *
  generalize isGen (W, rows) = R at *
  obtain rfl := HF.out
  clear HF
  cases B1
  · go_enter Tryd.func10, Tryd.ntmps10
    go_wp2_with fail
    go_at_call 42
    refine (H1.out _).mono ?_
    rintro e w1 ⟨rfl, rfl⟩
    go_wp2
    go_ret
    exact ⟨by simp, HB.out⟩
  cases B2
  · go_enter Tryd.func10, Tryd.ntmps10
    go_wp2_with fail
    go_at_call 42
    refine (H1.out _).mono ?_
    rintro e w1 ⟨rfl, rfl⟩
    go_wp2_with fail
    go_at_call 42
    refine (H2.out _).mono ?_
    rintro e w1 ⟨rfl, rfl⟩
    go_wp2
    go_ret
    exact ⟨by simp, HB.out⟩
  cases B3
  · go_enter Tryd.func10, Tryd.ntmps10
    go_wp2_with fail
    go_at_call 42
    refine (H1.out _).mono ?_
    rintro e w1 ⟨rfl, rfl⟩
    go_wp2_with fail
    go_at_call 42
    refine (H2.out _).mono ?_
    rintro e w1 ⟨rfl, rfl⟩
    go_wp2_with fail
    go_at_call 43
    refine (H3.out _ HS.out).mono ?_
    rintro e w1 ⟨rfl, q, rfl⟩
    go_wp2
    go_ret
    exact ⟨by simp, below_drewN HB.out q⟩
  go_enter Tryd.func10, Tryd.ntmps10
  go_wp2_with fail
  go_at_call 42
  refine (H1.out _).mono ?_
  rintro e w1 ⟨rfl, rfl⟩
  go_wp2_with fail
  go_at_call 42
  refine (H2.out _).mono ?_
  rintro e w1 ⟨rfl, rfl⟩
  go_wp2_with fail
  go_at_call 43
  refine (H3.out _ HS.out).mono ?_
  rintro e w1 ⟨rfl, q, rfl⟩
  have e0 : ((w.alloc (.cells #[.int .i64 W, .slice ad n cap] 26)).drewN q).cell? ⟨w.heap.size, 1, none⟩ = some (.slice ad n cap) := c1
  go_wp2_with fail
  go_at_call 44
  refine (H4.out _ (HS.out.drewN q)).mono ?_
  rintro e w1 ⟨rfl, rfl⟩
  go_wp2_with fail
  go_at_call 42
  refine (H5.out _).mono ?_
  rintro e w1 ⟨rfl, rfl⟩
  go_wp2
  go_ret
  exact ⟨by simp, below_drewN HB.out q⟩
end Go.Proofs.YtkhfkccbnhjmjaaDoor.GenW
namespace Go.Proofs.YtkhfkccbnhjmjaaDoor.Gen
open Go.RowKit
open Go.Proofs.YtkhfkccbnhjmjaaDoor.Seq Go.Proofs.YtkhfkccbnhjmjaaDoor.Help Go.Proofs.YtkhfkccbnhjmjaaDoor.Field Go.Proofs.YtkhfkccbnhjmjaaDoor.Vec Go.Proofs.YtkhfkccbnhjmjaaDoor.Mat Go.Proofs.YtkhfkccbnhjmjaaDoor.Uv Go.Proofs.YtkhfkccbnhjmjaaDoor.Rd Go.Proofs.YtkhfkccbnhjmjaaDoor.UvR
end Go.Proofs.YtkhfkccbnhjmjaaDoor.Gen
namespace Go.Proofs.YtkhfkccbnhjmjaaDoor.GenW
open Go.ChangeShapes Go.WideShapes Go.ChangeAt Go.RowKit
open Go.Proofs.YtkhfkccbnhjmjaaDoor.Seq Go.Proofs.YtkhfkccbnhjmjaaDoor.Help Go.Proofs.YtkhfkccbnhjmjaaDoor.Field Go.Proofs.YtkhfkccbnhjmjaaDoor.FieldW Go.Proofs.YtkhfkccbnhjmjaaDoor.Vec Go.Proofs.YtkhfkccbnhjmjaaDoor.VecW Go.Proofs.YtkhfkccbnhjmjaaDoor.Mat Go.Proofs.YtkhfkccbnhjmjaaDoor.MatW Go.Proofs.YtkhfkccbnhjmjaaDoor.Uv Go.Proofs.YtkhfkccbnhjmjaaDoor.UvW Go.Proofs.YtkhfkccbnhjmjaaDoor.Rd Go.Proofs.YtkhfkccbnhjmjaaDoor.RdW Go.Proofs.YtkhfkccbnhjmjaaDoor.UvR Go.Proofs.YtkhfkccbnhjmjaaDoor.Shape Go.Proofs.YtkhfkccbnhjmjaaDoor.Gen
end Go.Proofs.YtkhfkccbnhjmjaaDoor.GenW
namespace Go.Proofs.YtkhfkccbnhjmjaaDoor.Gen
open Go.Proofs.YtkhfkccbnhjmjaaDoor.Seq Go.Proofs.YtkhfkccbnhjmjaaDoor.Field Go.Proofs.YtkhfkccbnhjmjaaDoor.Vec Go.Proofs.YtkhfkccbnhjmjaaDoor.Mat
end Go.Proofs.YtkhfkccbnhjmjaaDoor.Gen
namespace Go.Proofs.YtkhfkccbnhjmjaaDoor.GenW
open Go.ChangeShapes Go.WideShapes Go.ChangeAt Go.RowKit
open Go.Proofs.YtkhfkccbnhjmjaaDoor.Drawn Go.Proofs.YtkhfkccbnhjmjaaDoor.Seq Go.Proofs.YtkhfkccbnhjmjaaDoor.Help Go.Proofs.YtkhfkccbnhjmjaaDoor.Field Go.Proofs.YtkhfkccbnhjmjaaDoor.FieldW Go.Proofs.YtkhfkccbnhjmjaaDoor.Vec Go.Proofs.YtkhfkccbnhjmjaaDoor.VecW Go.Proofs.YtkhfkccbnhjmjaaDoor.Mat Go.Proofs.YtkhfkccbnhjmjaaDoor.MatW Go.Proofs.YtkhfkccbnhjmjaaDoor.RedW Go.Proofs.YtkhfkccbnhjmjaaDoor.Shape Go.Proofs.YtkhfkccbnhjmjaaDoor.Gen

section
variable {w w' : World} {l h l' h' : Nat} {ad : Option Addr} {n cap : Nat} {gs : List G2}
end
end Go.Proofs.YtkhfkccbnhjmjaaDoor.GenW
namespace Go.Proofs.YtkhfkccbnhjmjaaDoor.GenW
open Go.ChangeShapes Go.WideShapes Go.ChangeAt Go.RowKit
open Go.Proofs.YtkhfkccbnhjmjaaDoor.Drawn Go.Proofs.YtkhfkccbnhjmjaaDoor.Seq Go.Proofs.YtkhfkccbnhjmjaaDoor.Help Go.Proofs.YtkhfkccbnhjmjaaDoor.Field Go.Proofs.YtkhfkccbnhjmjaaDoor.FieldW Go.Proofs.YtkhfkccbnhjmjaaDoor.Vec Go.Proofs.YtkhfkccbnhjmjaaDoor.VecW Go.Proofs.YtkhfkccbnhjmjaaDoor.Mat Go.Proofs.YtkhfkccbnhjmjaaDoor.MatW Go.Proofs.YtkhfkccbnhjmjaaDoor.RedW Go.Proofs.YtkhfkccbnhjmjaaDoor.Shape Go.Proofs.YtkhfkccbnhjmjaaDoor.Gen Go.Proofs.YtkhfkccbnhjmjaaDoor.Deep

end Go.Proofs.YtkhfkccbnhjmjaaDoor.GenW
namespace Go.Proofs.YtkhfkccbnhjmjaaDoor.GenW
open Go.ChangeShapes Go.WideShapes Go.ChangeAt Go.RowKit
open Go.Proofs.YtkhfkccbnhjmjaaDoor.Drawn Go.Proofs.YtkhfkccbnhjmjaaDoor.Seq Go.Proofs.YtkhfkccbnhjmjaaDoor.Help Go.Proofs.YtkhfkccbnhjmjaaDoor.Field Go.Proofs.YtkhfkccbnhjmjaaDoor.FieldW Go.Proofs.YtkhfkccbnhjmjaaDoor.Vec Go.Proofs.YtkhfkccbnhjmjaaDoor.VecW Go.Proofs.YtkhfkccbnhjmjaaDoor.Mat Go.Proofs.YtkhfkccbnhjmjaaDoor.MatW Go.Proofs.YtkhfkccbnhjmjaaDoor.RedW Go.Proofs.YtkhfkccbnhjmjaaDoor.Shape Go.Proofs.YtkhfkccbnhjmjaaDoor.Gen
end Go.Proofs.YtkhfkccbnhjmjaaDoor.GenW
namespace Go.Proofs.YtkhfkccbnhjmjaaDoor.GenW
open Go.ChangeShapes Go.WideShapes Go.ChangeAt Go.RowKit
open Go.Proofs.YtkhfkccbnhjmjaaDoor.Seq Go.Proofs.YtkhfkccbnhjmjaaDoor.Help Go.Proofs.YtkhfkccbnhjmjaaDoor.FieldW Go.Proofs.YtkhfkccbnhjmjaaDoor.Vec Go.Proofs.YtkhfkccbnhjmjaaDoor.Mat Go.Proofs.YtkhfkccbnhjmjaaDoor.Shape Go.Proofs.YtkhfkccbnhjmjaaDoor.Gen Go.Proofs.YtkhfkccbnhjmjaaDoor.Deep

section
variable {l h l2 h2 : Nat} {v v2 : Value} {g g2 : Bs} {xs : List Int} {m : List (List Int)} {gs : List Bs}
end
end Go.Proofs.YtkhfkccbnhjmjaaDoor.GenW
namespace Go.Proofs.YtkhfkccbnhjmjaaDoor.Pkt
open Go.RowKit
open Go.Proofs.YtkhfkccbnhjmjaaDoor.Seq Go.Proofs.YtkhfkccbnhjmjaaDoor.Field Go.Proofs.YtkhfkccbnhjmjaaDoor.Vec Go.Proofs.YtkhfkccbnhjmjaaDoor.Mat Go.Proofs.YtkhfkccbnhjmjaaDoor.Uv Go.Proofs.YtkhfkccbnhjmjaaDoor.Rd Go.Proofs.YtkhfkccbnhjmjaaDoor.Enc Go.Proofs.YtkhfkccbnhjmjaaDoor.Gen

abbrev P3 := Int × (List Int × List Int)
def none3 : P3 := (0, ([], []))
def isPkt (p : P3) (S W : Int) : Bool :=
  ((decide (0 ≤ p.1) && decide (p.1 ≤ 1000000000000)) && ((decide (1 ≤ S) && decide (S ≤ 8)) && ((decide (1 ≤ W) && decide (W ≤ 16)) && (decide ((p.2.1.length : Int) = S) && (decide ((p.2.2.length : Int) = W) && (isVec p.2.1 && isVec p.2.2))))))
def codeP (g : G2) (c : List Int) : P3 × Bool := bif isGen g && (isVec c && decide (c.length = g.2.length)) then ((g.1, (c, combine g.2 c)), true) else (none3, false)
def source (g : G2) (i : Int) : P3 × Bool := bif isGen g && (decide (0 ≤ i) && decide (i ≤ g.2.length - 1)) then codeP g (unit g.2.length i) else (none3, false)
def sameP (a b : P3) : Bool := (a.1 == b.1) && (decide (a.2.1 = b.2.1) && decide (a.2.2 = b.2.2))
def consP (g : G2) (p : P3) : Bool := bif (codeP g p.2.1).2 then sameP p (codeP g p.2.1).1 else false
def oneGen (ps : List P3) : Bool := ps.all fun p => p.1 == (ps.getD 0 none3).1
def mixP (ps : List P3) (c : List Int) : P3 × Bool :=
  bif oneGen ps then
    bif decide ((combine (ps.map (·.2.1)) c).length = 0) || decide ((combine (ps.map (·.2.2)) c).length = 0) then (none3, false)
    else (((ps.getD 0 none3).1, (combine (ps.map (·.2.1)) c, combine (ps.map (·.2.2)) c)), true)
  else (none3, false)
end Go.Proofs.YtkhfkccbnhjmjaaDoor.Pkt
namespace Go.Proofs.YtkhfkccbnhjmjaaDoor.PktW
open Go.ChangeShapes Go.WideShapes Go.ChangeAt Go.RowKit
open Go.Proofs.YtkhfkccbnhjmjaaDoor.Seq Go.Proofs.YtkhfkccbnhjmjaaDoor.Help Go.Proofs.YtkhfkccbnhjmjaaDoor.FieldW Go.Proofs.YtkhfkccbnhjmjaaDoor.Vec Go.Proofs.YtkhfkccbnhjmjaaDoor.Mat Go.Proofs.YtkhfkccbnhjmjaaDoor.Shape Go.Proofs.YtkhfkccbnhjmjaaDoor.Gen Go.Proofs.YtkhfkccbnhjmjaaDoor.Deep Go.Proofs.YtkhfkccbnhjmjaaDoor.Pkt

/-- The table of powers of 10 that strconv reads, as start-up lays it. -/
def Tab (w : World) : Prop := Lib.TabIs Tryd.prog w "internal/strconv.uint64pow10" .u64 Lib.pow10Tab
theorem Tab.below {n : Nat} {w w' : World} (h : Tab w) (hb : Below n w w') (hn : w.heap.size ≤ n) : Tab w' := by
  unfold Tab Lib.TabIs World.var? at *
  cases hg : Tryd.prog.globalNamed "internal/strconv.uint64pow10" with
  | none => simp [hg] at h
  | some g =>
    simp only [hg, Option.bind_some] at h ⊢
    have hlt : g < w.heap.size := by
      rcases Nat.lt_or_ge g w.heap.size with h' | h'
      · exact h'
      · rw [Array.getElem?_eq_none h'] at h; simp at h
    rw [hb.block g (by omega)]
    exact h
def MixOp : Prop := ∀ (w : World) {l h l2 h2 : Nat} {v v2 : Value} {ps : List P3} {c : List Int} (_ : CodedPacketSI w l h v ps) (_ : CodedPacketSF ps) (_ : IntSI w l2 h2 v2 c) (_ : IntSF c),
  Calls Tryd.prog 20 #[v, v2] w (RetB (fun w l h u => CodedPacketO w l h u (mixP ps c).1) (mixP ps c).2 w)
def EqPOp : Prop := ∀ (w : World) (_ : Tab w) {l h l2 h2 : Nat} {v v2 : Value} {a b : P3} (_ : CodedPacketI w l h v a) (_ : CodedPacketF a) (_ : CodedPacketI w l2 h2 v2 b) (_ : CodedPacketF b), Calls Tryd.prog 25 #[v, v2] w (Says (.bool (sameP a b)) w)
def IsPktSp : Prop := ∀ (w : World) {l h : Nat} {v : Value} {p : P3} (_ : CodedPacketI w l h v p) (_ : CodedPacketF p) (S : Int) (_ : -9223372036854775808 ≤ S) (_ : S ≤ 9223372036854775807) (W : Int) (_ : -9223372036854775808 ≤ W) (_ : W ≤ 9223372036854775807),
  Calls Tryd.prog 108 #[v, .int .i64 S, .int .i64 W] w (Says (.bool (isPkt p S W)) w)
def CodeSp : Prop := ∀ (w : World) {l h l2 h2 : Nat} {v v2 : Value} {g : Bs} {c : List Int} (_ : GenerationI w l h v g) (_ : GenerationF g) (_ : IntSI w l2 h2 v2 c) (_ : IntSF c),
  Calls Tryd.prog 61 #[v, v2] w (RetB (fun w l h u => CodedPacketO w l h u (codeP g c).1) (codeP g c).2 w)
def ConsSp : Prop := ∀ (w : World) {l h l2 h2 : Nat} {v v2 : Value} {g : Bs} {p : P3} (_ : GenerationI w l h v g) (_ : GenerationF g) (_ : CodedPacketI w l2 h2 v2 p) (_ : CodedPacketF p),
  Calls Tryd.prog 24 #[v, v2] w (Says (.bool (consP g p)) w)
def MixSp : Prop := ∀ (w : World) {l h l2 h2 : Nat} {v v2 : Value} {ps : List P3} {c : List Int} (_ : CodedPacketSI w l h v ps) (_ : CodedPacketSF ps) (_ : IntSI w l2 h2 v2 c) (_ : IntSF c),
  Calls Tryd.prog 21 #[v, v2] w (RetB (fun w l h u => CodedPacketO w l h u (mixP ps c).1) (mixP ps c).2 w)
def EqPSp : Prop := ∀ (w : World) {l h l2 h2 : Nat} {v v2 : Value} {a b : P3} (_ : CodedPacketI w l h v a) (_ : CodedPacketF a) (_ : CodedPacketI w l2 h2 v2 b) (_ : CodedPacketF b), Calls Tryd.prog 32 #[v, v2] w (Says (.bool (sameP a b)) w)
end Go.Proofs.YtkhfkccbnhjmjaaDoor.PktW
namespace Go.Proofs.YtkhfkccbnhjmjaaDoor.PktW
open Go.ChangeShapes Go.WideShapes Go.ChangeAt Go.RowKit
open Go.Proofs.YtkhfkccbnhjmjaaDoor.Seq Go.Proofs.YtkhfkccbnhjmjaaDoor.Help Go.Proofs.YtkhfkccbnhjmjaaDoor.FieldW Go.Proofs.YtkhfkccbnhjmjaaDoor.Vec Go.Proofs.YtkhfkccbnhjmjaaDoor.Mat Go.Proofs.YtkhfkccbnhjmjaaDoor.Shape Go.Proofs.YtkhfkccbnhjmjaaDoor.Gen Go.Proofs.YtkhfkccbnhjmjaaDoor.Deep Go.Proofs.YtkhfkccbnhjmjaaDoor.Pkt Go.Proofs.YtkhfkccbnhjmjaaDoor.Enc

theorem pkt_fit {p : P3} (h1 : p.2.1.length ≤ 1000) (h2 : p.2.2.length ≤ 1000) : CodedPacketF p := by
  have e : Sz tPkt p = 0 + (Sz tIs p.2.1 + Sz tIs p.2.2) := rfl
  show Sz tPkt p ≤ 1048576
  rw [e, Sz_IS, Sz_IS]
  omega
theorem fit_none : CodedPacketF none3 := pkt_fit (Nat.zero_le _) (Nat.zero_le _)
theorem fit_code (g : Bs) (c : List Int) : CodedPacketF (codeP g c).1 := by
  unfold codeP
  cases h : Gen.isGen g && (Vec.isVec c && decide (c.length = g.2.length))
  · exact fit_none
  · simp only [Bool.and_eq_true] at h
    have h1 := (isVec_iff.1 h.2.1).2
    have h2 := combine_le40 g.2 c
    exact pkt_fit (by show c.length ≤ 1000; omega) (by show (combine g.2 c).length ≤ 1000; omega)
theorem fit_mix (ps : List P3) (c : List Int) : CodedPacketF (mixP ps c).1 := by
  unfold mixP
  cases oneGen ps
  · exact fit_none
  · simp only [cond_true]
    cases decide ((combine (ps.map (·.2.1)) c).length = 0) || decide ((combine (ps.map (·.2.2)) c).length = 0)
    · have h1 := combine_le40 (ps.map (·.2.1)) c
      have h2 := combine_le40 (ps.map (·.2.2)) c
      exact pkt_fit (by show (combine (ps.map (·.2.1)) c).length ≤ 1000; omega) (by show (combine (ps.map (·.2.2)) c).length ≤ 1000; omega)
    · exact fit_none
end Go.Proofs.YtkhfkccbnhjmjaaDoor.PktW
namespace Go.Proofs.YtkhfkccbnhjmjaaDoor.Pkt
open Go.RowKit
open Go.Proofs.YtkhfkccbnhjmjaaDoor.Seq Go.Proofs.YtkhfkccbnhjmjaaDoor.Field Go.Proofs.YtkhfkccbnhjmjaaDoor.Vec Go.Proofs.YtkhfkccbnhjmjaaDoor.Mat Go.Proofs.YtkhfkccbnhjmjaaDoor.Uv Go.Proofs.YtkhfkccbnhjmjaaDoor.Rd Go.Proofs.YtkhfkccbnhjmjaaDoor.Enc Go.Proofs.YtkhfkccbnhjmjaaDoor.Gen

/-- A combination of rows of one width, with as many coefficients. -/
theorem rows_comb {rows : List (List Int)} {c : List Int} {W : Nat} (h0 : rows ≠ []) (hW : W ≤ 40) (h : ∀ xs ∈ rows, isVec xs = true ∧ xs.length = W) (hc : isVec c = true) (hl : c.length = rows.length) :
    (combine rows c).length = W ∧ isVec (combine rows c) = true := by
  have hok : okRows W rows = true := by
    unfold okRows
    rw [List.all_eq_true]
    intro xs hx
    rw [(h xs hx).1, (h xs hx).2]; simp
  obtain ⟨rs, hrs, hw⟩ := okRows_ems hok
  obtain ⟨d, rfl, hd⟩ := of_vec hc
  rw [← hrs] at hl h0 ⊢
  have h0' : rs ≠ [] := by rintro rfl; exact h0 rfl
  have e : (emss rs).length = rs.length := by simp [emss]
  rw [ems_len, e] at hl
  rw [combine_ems h0' hW hw hl.symm hd]
  have hf : (foldC (List.replicate W 0) rs d).length = W := foldC_len (by simp) hw
  exact ⟨by rw [ems_len, hf], isVec_ems (by rw [hf]; exact hW)⟩
theorem gen_rows {g : G2} (h : isGen g = true) : (0 ≤ g.1 ∧ g.1 ≤ 1000000000000) ∧ (1 ≤ g.2.length ∧ g.2.length ≤ 8) ∧ (∀ xs ∈ g.2, isVec xs = true ∧ xs.length = colsOf g.2) ∧ 1 ≤ colsOf g.2 ∧ colsOf g.2 ≤ 16 := by
  unfold isGen at h
  simp only [Bool.and_eq_true, decide_eq_true_eq] at h
  obtain ⟨⟨⟨⟨a, b⟩, c, d⟩, e⟩, f, k⟩ := h
  exact ⟨⟨a, b⟩, ⟨c, d⟩, (isMat_iff.1 e).1, f, k⟩
theorem gen_comb {g : G2} {c : List Int} (hg : isGen g = true) (hc : isVec c = true) (hl : c.length = g.2.length) : (combine g.2 c).length = colsOf g.2 ∧ isVec (combine g.2 c) = true := by
  obtain ⟨_, ⟨h1, _⟩, h2, _, h4⟩ := gen_rows hg
  exact rows_comb (by intro e; rw [e] at h1; simp at h1) (by omega) h2 hc hl
theorem code_is {g : G2} {c : List Int} (hg : isGen g = true) (hc : isVec c = true) (hl : c.length = g.2.length) : codeP g c = ((g.1, (c, combine g.2 c)), true) := by
  unfold codeP; rw [hg, hc, hl]; simp
theorem code_cons {g : G2} {c : List Int} (hg : isGen g = true) (hc : isVec c = true) (hl : c.length = g.2.length) (y : List Int) : consP g (g.1, (c, y)) = decide (y = combine g.2 c) := by
  unfold consP
  show cond (codeP g c).2 _ _ = _
  rw [code_is hg hc hl]
  unfold sameP
  simp
end Go.Proofs.YtkhfkccbnhjmjaaDoor.Pkt
namespace Go.Proofs.YtkhfkccbnhjmjaaDoor.Pkt
open Go.RowKit
open Go.Proofs.YtkhfkccbnhjmjaaDoor.Seq Go.Proofs.YtkhfkccbnhjmjaaDoor.Field Go.Proofs.YtkhfkccbnhjmjaaDoor.Vec Go.Proofs.YtkhfkccbnhjmjaaDoor.Mat Go.Proofs.YtkhfkccbnhjmjaaDoor.Uv Go.Proofs.YtkhfkccbnhjmjaaDoor.Rd Go.Proofs.YtkhfkccbnhjmjaaDoor.Enc Go.Proofs.YtkhfkccbnhjmjaaDoor.Gen

theorem mac_k (a b : List F) (k : F) : macF a b k = macF a (b.map (· * k)) 1 := by
  unfold macF
  rw [List.zipWith_map_right]
  congr 1
  funext x y
  show x + y * k = x + y * k * 1
  grind
theorem zeros_k (W : Nat) (k : F) : (List.replicate W (0 : F)).map (· * k) = List.replicate W 0 := by
  rw [List.map_replicate]; congr 1; grind
theorem lin_mac {R : List (List F)} {W : Nat} {u v : List F} {k : F} (h : ∀ r ∈ R, r.length = W) (hl : u.length = v.length) :
    foldC (List.replicate W 0) R (macF u v k) = macF (foldC (List.replicate W 0) R u) (foldC (List.replicate W 0) R v) k := by
  rw [mac_k u v k]
  have h1 := foldC_add (a := List.replicate W 0) (b := List.replicate W 0) (cs := u) (ds := v.map (· * k)) (W := W) (by simp) (by simp) h (by simpa using hl)
  rw [zeros_mac (by simp)] at h1
  rw [h1]
  have h2 := foldC_scale (List.replicate W 0) R v k
  rw [zeros_k] at h2
  rw [h2, ← mac_k]
theorem fold_fold {R : List (List F)} {W : Nat} (h : ∀ r ∈ R, r.length = W) : ∀ (cs : List (List F)) (d : List F) (a : List F), (∀ c ∈ cs, c.length = R.length) → a.length = R.length →
    foldC (foldC (List.replicate W 0) R a) (cs.map (foldC (List.replicate W 0) R)) d = foldC (List.replicate W 0) R (foldC a cs d)
  | [], d, a, _, _ => by cases d <;> rfl
  | c :: cs, [], a, _, _ => rfl
  | c :: cs, x :: d, a, hc, ha => by
    have h0 := hc c (.head _)
    show foldC (macF (foldC (List.replicate W 0) R a) (foldC (List.replicate W 0) R c) x) (cs.map (foldC (List.replicate W 0) R)) d = foldC (List.replicate W 0) R (foldC (macF a c x) cs d)
    rw [← lin_mac h (ha.trans h0.symm)]
    exact fold_fold h cs d _ (fun c' hc' => hc c' (.tail _ hc')) ((macF_len (ha.trans h0.symm)).trans ha)
/-- Vectors of one length. -/
theorem vecs_ems : ∀ {xss : List (List Int)} {n : Nat}, (∀ xs ∈ xss, isVec xs = true ∧ xs.length = n) → ∃ cs : List (List F), emss cs = xss ∧ ∀ c ∈ cs, c.length = n
  | [], n, _ => ⟨[], rfl, fun c hc => by cases hc⟩
  | xs :: xss, n, h => by
    obtain ⟨c, rfl, _⟩ := of_vec (h xs (.head _)).1
    obtain ⟨cs, rfl, hcs⟩ := vecs_ems (xss := xss) (n := n) fun ys hy => h ys (.tail _ hy)
    refine ⟨c :: cs, rfl, fun r hr => ?_⟩
    rcases List.mem_cons.1 hr with rfl | hr
    · have := (h _ (.head _)).2; rwa [ems_len] at this
    · exact hcs r hr
theorem combine_combine {R cs : List (List Int)} {d : List Int} {n W : Nat} (hR0 : R ≠ []) (hW : W ≤ 40) (hR : ∀ xs ∈ R, isVec xs = true ∧ xs.length = W) (hn : R.length = n) (hn40 : n ≤ 40)
    (hc0 : cs ≠ []) (hcs : ∀ c ∈ cs, isVec c = true ∧ c.length = n) (hd : isVec d = true) (hl : cs.length = d.length) :
    combine (cs.map (combine R)) d = combine R (combine cs d) ∧ (combine cs d).length = n ∧ isVec (combine cs d) = true := by
  obtain ⟨rs, rfl, hrs⟩ := vecs_ems hR
  obtain ⟨ks, rfl, hks⟩ := vecs_ems hcs
  obtain ⟨dd, rfl, hdd⟩ := of_vec hd
  have e1 : (emss rs).length = rs.length := by simp [emss]
  have e2 : (emss ks).length = ks.length := by simp [emss]
  rw [e1] at hn
  rw [e2, ems_len] at hl
  have r0 : rs ≠ [] := by rintro rfl; exact hR0 rfl
  have k0 : ks ≠ [] := by rintro rfl; exact hc0 rfl
  have hm : (emss ks).map (combine (emss rs)) = emss (ks.map (foldC (List.replicate W 0) rs)) := by
    unfold emss
    rw [List.map_map, List.map_map]
    refine List.map_congr_left fun c hc => ?_
    show combine (emss rs) (ems c) = ems (foldC (List.replicate W 0) rs c)
    exact combine_ems r0 hW hrs (by rw [hn, hks c hc]) (by rw [hks c hc]; exact hn40)
  have hin : combine (emss ks) (ems dd) = ems (foldC (List.replicate n 0) ks dd) := combine_ems k0 hn40 hks hl hdd
  have hfl : (foldC (List.replicate n 0) ks dd).length = n := foldC_len (by simp) hks
  refine ⟨?_, by rw [hin, ems_len, hfl], by rw [hin]; exact isVec_ems (by rw [hfl]; exact hn40)⟩
  rw [hm, hin, combine_ems (by simpa using k0) hW (fun r hr => by
      obtain ⟨c, _, rfl⟩ := List.mem_map.1 hr
      exact foldC_len (by simp) hrs) (by simpa using hl) hdd, combine_ems r0 hW hrs (by rw [hfl, hn]) (by rw [hfl]; exact hn40)]
  have := fold_fold hrs ks dd (List.replicate n 0) (fun c hc => by rw [hks c hc, hn]) (by rw [hn]; simp)
  rw [show foldC (List.replicate W 0) rs (List.replicate n 0) = List.replicate W 0 from foldC_zeros (by simp) hrs] at this
  rw [this]
/-- Promise 11: what CombinePackets makes of consistent packets is consistent. -/
theorem mix_law {g : G2} {ps : List P3} {d : List Int} (hg : isGen g = true) (h0 : ps ≠ []) (hp : ∀ p ∈ ps, p.1 = g.1 ∧ isVec p.2.1 = true ∧ p.2.1.length = g.2.length ∧ p.2.2 = combine g.2 p.2.1) (hd : isVec d = true) (hl : ps.length = d.length) :
    (mixP ps d).2 = true ∧ consP g (mixP ps d).1 = true := by
  obtain ⟨_, ⟨g1, g2⟩, g3, g4, g5⟩ := gen_rows hg
  have hc0 : ps.map (·.2.1) ≠ [] := by simpa using h0
  have hcs : ∀ c ∈ ps.map (·.2.1), isVec c = true ∧ c.length = g.2.length := by
    intro c hc
    obtain ⟨p, hpm, rfl⟩ := List.mem_map.1 hc
    exact ⟨(hp p hpm).2.1, (hp p hpm).2.2.1⟩
  obtain ⟨e1, e2, e3⟩ := combine_combine (R := g.2) (cs := ps.map (·.2.1)) (d := d) (by intro e; rw [e] at g1; simp at g1) (by omega) g3 rfl (by omega) hc0 hcs hd (by simpa using hl)
  have e4 : ps.map (·.2.2) = (ps.map (·.2.1)).map (combine g.2) := by
    rw [List.map_map]
    exact List.map_congr_left fun p hpm => (hp p hpm).2.2.2
  have hone : oneGen ps = true := by
    unfold oneGen
    rw [List.all_eq_true]
    have h00 : (ps.getD 0 none3).1 = g.1 := by
      cases ps with
      | nil => exact absurd rfl h0
      | cons p ps => exact (hp p (.head _)).1
    intro p hpm
    rw [h00]
    simpa using (hp p hpm).1
  have h00 : (ps.getD 0 none3).1 = g.1 := by
    cases ps with
    | nil => exact absurd rfl h0
    | cons p ps => exact (hp p (.head _)).1
  obtain ⟨e5, e6⟩ := gen_comb hg e3 e2
  have hm : mixP ps d = ((g.1, (combine (ps.map (·.2.1)) d, combine g.2 (combine (ps.map (·.2.1)) d))), true) := by
    unfold mixP
    rw [hone, h00, e4, e1]
    have n1 : decide ((combine (ps.map (·.2.1)) d).length = 0) = false := decide_eq_false (by omega)
    have n2 : decide ((combine g.2 (combine (ps.map (·.2.1)) d)).length = 0) = false := decide_eq_false (by omega)
    rw [n1, n2]; rfl
  rw [hm]
  refine ⟨rfl, ?_⟩
  show consP g (g.1, (combine (ps.map (·.2.1)) d, combine g.2 (combine (ps.map (·.2.1)) d))) = true
  rw [code_cons hg e3 e2]
  exact decide_eq_true rfl
end Go.Proofs.YtkhfkccbnhjmjaaDoor.Pkt
namespace Go.Proofs.YtkhfkccbnhjmjaaDoor.Pkt
open Go.RowKit
open Go.Proofs.YtkhfkccbnhjmjaaDoor.Seq Go.Proofs.YtkhfkccbnhjmjaaDoor.Field Go.Proofs.YtkhfkccbnhjmjaaDoor.Vec Go.Proofs.YtkhfkccbnhjmjaaDoor.Mat Go.Proofs.YtkhfkccbnhjmjaaDoor.Uv Go.Proofs.YtkhfkccbnhjmjaaDoor.Rd Go.Proofs.YtkhfkccbnhjmjaaDoor.Enc Go.Proofs.YtkhfkccbnhjmjaaDoor.UvR Go.Proofs.YtkhfkccbnhjmjaaDoor.Gen

end Go.Proofs.YtkhfkccbnhjmjaaDoor.Pkt
namespace Go.Proofs.YtkhfkccbnhjmjaaDoor.PktW
open Go.ChangeShapes Go.WideShapes Go.ChangeAt Go.RowKit
open Go.Proofs.YtkhfkccbnhjmjaaDoor.Seq Go.Proofs.YtkhfkccbnhjmjaaDoor.Help Go.Proofs.YtkhfkccbnhjmjaaDoor.FieldW Go.Proofs.YtkhfkccbnhjmjaaDoor.Vec Go.Proofs.YtkhfkccbnhjmjaaDoor.VecW Go.Proofs.YtkhfkccbnhjmjaaDoor.Mat Go.Proofs.YtkhfkccbnhjmjaaDoor.Shape Go.Proofs.YtkhfkccbnhjmjaaDoor.Gen Go.Proofs.YtkhfkccbnhjmjaaDoor.Deep Go.Proofs.YtkhfkccbnhjmjaaDoor.Pkt

section
variable {w : World} {l h lo hi a b c d : Nat} {v : Value} {p : P3} {e e2 : TypeId} {ad1 ad2 : Option Addr} {n1 cap1 n2 cap2 : Nat} {x : Int} {C P : List Int}
theorem pkt_open (s : CodedPacketI w l h v p) : ∃ (ad1 : Option Addr) (n1 cap1 : Nat) (ad2 : Option Addr) (n2 cap2 : Nat), v = .agg #[.int .i64 p.1, .slice ad1 n1 cap1, .slice ad2 n2 cap2] ∧ (-9223372036854775808 ≤ p.1 ∧ p.1 ≤ 9223372036854775807) ∧ Sl w l h .i64 ad1 n1 cap1 p.2.1 ∧ Sl w l h .i64 ad2 n2 cap2 p.2.2 := by
  obtain ⟨c0, c1, c2, rfl, r⟩ := s
  obtain ⟨d0, es0, ee0, ra0, r1⟩ := r.unp rfl
  obtain ⟨rfl, rfl⟩ := List.cons.inj ee0
  obtain ⟨d1, es1, ee1, ra1, r2⟩ := r1.unp rfl
  obtain ⟨rfl, rfl⟩ := List.cons.inj ee1
  obtain ⟨ec0, fi0⟩ := ra0.uni
  simp at ec0
  subst ec0
  obtain ⟨ad1, n1, cap1, rfl, s1⟩ := rd_ISI ra1
  obtain ⟨ad2, n2, cap2, rfl, s2⟩ := rd_ISI r2
  exact ⟨_, _, _, _, _, _, rfl, fits_i64.1 fi0, s1, s2⟩
theorem pkt_of (hw : -9223372036854775808 ≤ x ∧ x ≤ 9223372036854775807) (s1 : Sl w l h .i64 ad1 n1 cap1 C) (s2 : Sl w l h .i64 ad2 n2 cap2 P) : CodedPacketI w l h (.agg #[.int .i64 x, .slice ad1 n1 cap1, .slice ad2 n2 cap2]) (x, (C, P)) :=
  ⟨_, _, _, rfl, Rd.num (fits_i64.2 hw) ⟨[.slice ad1 n1 cap1], [.slice ad2 n2 cap2], rfl, sl_rd s1, sl_rd s2⟩⟩
theorem pkt_own (hw : -9223372036854775808 ≤ x ∧ x ≤ 9223372036854775807) (r1 : Row w a b .i64 e ad1 n1 cap1 C) (r2 : Row w c d .i64 e2 ad2 n2 cap2 P) (h1 : b ≤ c) (h2 : lo ≤ a) (h3 : b ≤ hi) (h4 : lo ≤ c) (h5 : d ≤ hi) :
    CodedPacketO w lo hi (.agg #[.int .i64 x, .slice ad1 n1 cap1, .slice ad2 n2 cap2]) (x, (C, P)) :=
  ⟨_, _, _, rfl, Own.num (fits_i64.2 hw) (Own.pair (row_own r1) (row_own r2) h1 h2 h3 h4 h5)⟩
theorem pkt_none (w : World) (lo hi : Nat) (h : lo ≤ hi) : CodedPacketO w lo hi (.agg #[.int .i64 0, .slice none 0 0, .slice none 0 0]) none3 :=
  pkt_own (a := lo) (b := lo) (c := lo) (d := lo) (e := 0) (e2 := 0) (by omega) (Row.nil _ _ _ _ _ _) (Row.nil _ _ _ _ _ _) (Nat.le_refl _) (Nat.le_refl _) h (Nat.le_refl _) h
end
/-- A packet whose two texts are new, one behind the other. -/
def PktR (w : World) (l h : Nat) (u : Value) (p : P3) : Prop :=
  ∃ (m : Nat) (ad1 : Option Addr) (n1 cap1 : Nat) (ad2 : Option Addr) (n2 cap2 : Nat), u = .agg #[.int .i64 p.1, .slice ad1 n1 cap1, .slice ad2 n2 cap2] ∧ (-9223372036854775808 ≤ p.1 ∧ p.1 ≤ 9223372036854775807) ∧ l ≤ m ∧ m ≤ h ∧
    Row w l m .i64 3 ad1 n1 cap1 p.2.1 ∧ Row w m h .i64 3 ad2 n2 cap2 p.2.2
theorem PktR.own {w : World} {l h : Nat} {u : Value} {p : P3} (s : PktR w l h u p) : CodedPacketO w l h u p := by
  obtain ⟨m, _, _, _, _, _, _, rfl, hw, h1, h2, r1, r2⟩ := s
  exact pkt_own hw r1 r2 (Nat.le_refl _) (Nat.le_refl _) h2 h1 (Nat.le_refl _)
theorem PktR.zero (w : World) {l h : Nat} (hlh : l ≤ h) : PktR w l h (.agg #[.int .i64 0, .slice none 0 0, .slice none 0 0]) none3 :=
  ⟨h, none, 0, 0, none, 0, 0, rfl, ⟨by decide, by decide⟩, hlh, Nat.le_refl _, Row.nil _ _ _ _ _ _, Row.nil _ _ _ _ _ _⟩
theorem eqb (a b : Int) : decide (a = b) = (a == b) := by by_cases h : a = b <;> simp [h]
set_option maxRecDepth 100000 in
set_option maxHeartbeats 1600000 in
theorem isPktS : IsPktSp := fun w l h v p s f S hS0 hS1 W hW0 hW1 => by
  obtain ⟨ad1, n1, cap1, ad2, n2, cap2, rfl, hw, s1, s2⟩ := pkt_open s
  have hb := below_box w (.cells #[.int .i64 p.1, .slice ad1 n1 cap1, .slice ad2 n2 cap2] 31)
  have kA := Bx.new w [.int .i64 p.1, .slice ad1 n1 cap1, .slice ad2 n2 cap2] 31
  have c0 := kA.cell (i := 0) rfl
  have c1 := kA.cell (i := 1) rfl
  have c2 := kA.cell (i := 2) rfl
  have b1 := s1.big
  have b2 := s2.big
  have e1 := s1.le
  have e2 := s2.le
  unfold maxLen at b1 b2
  have HF := Lib.hid (show isPkt p S W = ((decide (0 ≤ p.1) && decide (p.1 ≤ 1000000000000)) && ((decide (1 ≤ S) && decide (S ≤ 8)) && ((decide (1 ≤ W) && decide (W ≤ 16)) && (((n1 : Int) == S) && (((n2 : Int) == W) && (isVec p.2.1 && isVec p.2.2)))))) by
    unfold isPkt; rw [s1.len, s2.len, eqb, eqb])
  have H1 := Lib.hid (fun w' : World => l1In_is w' p.1 0 1000000000000)
  have H2 := Lib.hid (fun w' : World => l1In_is w' S 1 8)
  have H3 := Lib.hid (fun w' : World => l1In_is w' W 1 16)
  have H6 := Lib.hid (spec_isVec _ (s1.below hb (.inr (Nat.le_refl _))))
  have H7 := Lib.hid (spec_isVec _ (s2.below hb (.inr (Nat.le_refl _))))
  have HB := Lib.hid hb
  generalize isPkt p S W = R at *
  generalize (decide (0 ≤ p.1) && decide (p.1 ≤ 1000000000000)) = B1 at *
  generalize (decide (1 ≤ S) && decide (S ≤ 8)) = B2 at *
  generalize (decide (1 ≤ W) && decide (W ≤ 16)) = B3 at *
  generalize isVec p.2.1 = B6 at *
  generalize isVec p.2.2 = B7 at *
  obtain ⟨B4, hB4⟩ : ∃ B, ((n1 : Int) == S) = B := ⟨_, rfl⟩
  obtain ⟨B5, hB5⟩ : ∃ B, ((n2 : Int) == W) = B := ⟨_, rfl⟩
  rw [hB4, hB5] at HF
  obtain rfl := HF.out
  clear HF kA hb s s1 s2 f
  go_enter Tryd.func108, Tryd.ntmps108
  go_wp2_with fail
  go_at_call 42
  refine (H1.out _).mono ?_
  rintro e w' ⟨rfl, rfl⟩
  cases B1
  · go_wp2
    go_ret
    exact ⟨rfl, HB.out⟩
  go_wp2_with fail
  go_at_call 42
  refine (H2.out _).mono ?_
  rintro e w' ⟨rfl, rfl⟩
  cases B2
  · go_wp2
    go_ret
    exact ⟨rfl, HB.out⟩
  go_wp2_with fail
  go_at_call 42
  refine (H3.out _).mono ?_
  rintro e w' ⟨rfl, rfl⟩
  cases B3
  · go_wp2
    go_ret
    exact ⟨rfl, HB.out⟩
  cases B4
  · go_wp2
    go_ret
    exact ⟨rfl, HB.out⟩
  cases B5
  · go_wp2
    go_ret
    exact ⟨rfl, HB.out⟩
  go_wp2_with fail
  go_at_call 11
  refine H6.out.mono ?_
  rintro e w' ⟨rfl, rfl⟩
  cases B6
  · go_wp2
    go_ret
    exact ⟨rfl, HB.out⟩
  go_wp2_with fail
  go_at_call 11
  refine H7.out.mono ?_
  rintro e w' ⟨rfl, rfl⟩
  go_wp2
  go_ret
  exact ⟨by simp, HB.out⟩
set_option maxRecDepth 100000 in
theorem eqPS : EqPSp := fun w l h l2 h2 v v2 a b s f s2 f2 => by
  obtain ⟨ad1, n1, cap1, ad2, n2, cap2, rfl, hw, t1, t2⟩ := pkt_open s
  obtain ⟨ad3, n3, cap3, ad4, n4, cap4, rfl, hw2, t3, t4⟩ := pkt_open s2
  have hz1 : n1 ≤ 17592186044416 ∧ n2 ≤ 17592186044416 := by
    have e : Sz tPkt a = 0 + (Sz tIs a.2.1 + Sz tIs a.2.2) := rfl
    have f' : Sz tPkt a ≤ 1048576 := f
    rw [e, Sz_IS, Sz_IS, t1.len, t2.len] at f'
    omega
  have hb := (below_box w (.cells #[.int .i64 a.1, .slice ad1 n1 cap1, .slice ad2 n2 cap2] 31)).alloc (by simp) (.cells #[.int .i64 b.1, .slice ad3 n3 cap3, .slice ad4 n4 cap4] 31)
  have hz : ((w.alloc (.cells #[.int .i64 a.1, .slice ad1 n1 cap1, .slice ad2 n2 cap2] 31)).alloc (.cells #[.int .i64 b.1, .slice ad3 n3 cap3, .slice ad4 n4 cap4] 31)).heap.size = w.heap.size + 1 + 1 := by simp
  have kA := (Bx.new w [.int .i64 a.1, .slice ad1 n1 cap1, .slice ad2 n2 cap2] 31).alloc (.cells #[.int .i64 b.1, .slice ad3 n3 cap3, .slice ad4 n4 cap4] 31)
  have kB := Bx.new (w.alloc (.cells #[.int .i64 a.1, .slice ad1 n1 cap1, .slice ad2 n2 cap2] 31)) [.int .i64 b.1, .slice ad3 n3 cap3, .slice ad4 n4 cap4] 31
  rw [World.size_alloc] at kB
  have H1 := Lib.hid (fun (w' : World) (q : Below w.heap.size w w') => Eq.spec_eqI w' (t1.below q (.inr (Nat.le_refl _))) (t3.below q (.inr (Nat.le_refl _))) hz1.1)
  have H2 := Lib.hid (fun (w' : World) (q : Below w.heap.size w w') => Eq.spec_eqI w' (t2.below q (.inr (Nat.le_refl _))) (t4.below q (.inr (Nat.le_refl _))) hz1.2)
  have HF := Lib.hid (show sameP a b = ((a.1 == b.1) && (Eq.same a.2.1 b.2.1 && Eq.same a.2.2 b.2.2)) from rfl)
  have ca0 := kA.cell (i := 0) rfl
  have ca1 := kA.cell (i := 1) rfl
  have ca2 := kA.cell (i := 2) rfl
  have cb0 := kB.cell (i := 0) rfl
  have cb1 := kB.cell (i := 1) rfl
  have cb2 := kB.cell (i := 2) rfl
  generalize sameP a b = R at *
  generalize Eq.same a.2.1 b.2.1 = B1 at *
  generalize Eq.same a.2.2 b.2.2 = B2 at *
  obtain ⟨B0, hB0⟩ : ∃ B, (a.1 == b.1) = B := ⟨_, rfl⟩
  rw [hB0] at HF
  obtain rfl := HF.out
  have HB := Lib.hid hb
  have KA := Lib.hid kA
  have KB := Lib.hid kB
  clear HF s s2 t1 t2 t3 t4 f f2 hb kA kB
  cases B0
  · go_enter Tryd.func32, Tryd.ntmps32
    go_wp2
    go_ret
    exact ⟨rfl, HB.out⟩
  go_enter Tryd.func32, Tryd.ntmps32
  go_wp2_with fail
  go_at_call 69
  generalize (w.alloc (.cells #[.int .i64 a.1, .slice ad1 n1 cap1, .slice ad2 n2 cap2] 31)).alloc (.cells #[.int .i64 b.1, .slice ad3 n3 cap3, .slice ad4 n4 cap4] 31) = D at *
  refine (H1.out D HB.out).mono ?_
  rintro e w1 ⟨rfl, b1⟩
  have hD1 := Lib.hid (HB.out.trans (b1.mono (by omega)))
  have da2 := (b1.cell (World.block_lt_of_cell? _ _ ca2)).trans ca2
  have db2 := (b1.cell (World.block_lt_of_cell? _ _ cb2)).trans cb2
  have hz1' := b1.size
  clear b1
  cases B1
  · go_wp2
    go_ret
    exact ⟨rfl, hD1.out⟩
  go_wp2_with fail
  go_at_call 69
  refine (H2.out w1 hD1.out).mono ?_
  rintro e w2 ⟨rfl, b2⟩
  have hD2 := Lib.hid (hD1.out.trans (b2.mono (by omega)))
  clear b2
  go_wp2
  go_ret
  exact ⟨by simp, hD2.out⟩
end Go.Proofs.YtkhfkccbnhjmjaaDoor.PktW
namespace Go.Proofs.YtkhfkccbnhjmjaaDoor.PktW
open Go.ChangeShapes Go.WideShapes Go.ChangeAt Go.RowKit
open Go.Proofs.YtkhfkccbnhjmjaaDoor.Drawn Go.Proofs.YtkhfkccbnhjmjaaDoor.Seq Go.Proofs.YtkhfkccbnhjmjaaDoor.Help Go.Proofs.YtkhfkccbnhjmjaaDoor.FieldW Go.Proofs.YtkhfkccbnhjmjaaDoor.Vec Go.Proofs.YtkhfkccbnhjmjaaDoor.VecW Go.Proofs.YtkhfkccbnhjmjaaDoor.Mat Go.Proofs.YtkhfkccbnhjmjaaDoor.MatW Go.Proofs.YtkhfkccbnhjmjaaDoor.Shape Go.Proofs.YtkhfkccbnhjmjaaDoor.Gen Go.Proofs.YtkhfkccbnhjmjaaDoor.GenW Go.Proofs.YtkhfkccbnhjmjaaDoor.Deep Go.Proofs.YtkhfkccbnhjmjaaDoor.Pkt Go.Proofs.YtkhfkccbnhjmjaaDoor.CombW

theorem code_no {g : G2} {c : List Int} (h : (Gen.isGen g && (Vec.isVec c && decide (c.length = g.2.length))) = false) : codeP g c = (none3, false) := by unfold codeP; rw [h]; rfl
theorem code_ok {g : G2} {c : List Int} (h : (Gen.isGen g && (Vec.isVec c && decide (c.length = g.2.length))) = true) : codeP g c = ((g.1, (c, combine g.2 c)), true) := by unfold codeP; rw [h]; rfl
theorem gen_small {g : G2} (h : Gen.isGen g = true) : g.2.length ≤ 8 ∧ ∀ xs ∈ g.2, xs.length ≤ 17592186044416 := by
  unfold Gen.isGen at h
  simp only [Bool.and_eq_true, decide_eq_true_eq] at h
  obtain ⟨⟨⟨_, _, h1⟩, h2⟩, _⟩ := h
  exact ⟨h1, fun xs hx => by have := (isVec_iff.1 ((isMat_iff.1 h2).1 xs hx).1).2; omega⟩
/-- The block of an answer that is the zero packet. -/
theorem zero_box {w : World} {Z : Nat} (k : Bx w Z 31 [.int .i64 0, .slice none 0 0, .slice none 0 0]) :
    Bx (((w.setCell ⟨Z, 0, none⟩ (.int .i64 0)).setCell ⟨Z, 1, none⟩ (.slice none 0 0)).setCell ⟨Z, 2, none⟩ (.slice none 0 0)) Z 31 [.int .i64 0, .slice none 0 0, .slice none 0 0] ∧
    Mv w (((w.setCell ⟨Z, 0, none⟩ (.int .i64 0)).setCell ⟨Z, 1, none⟩ (.slice none 0 0)).setCell ⟨Z, 2, none⟩ (.slice none 0 0)) Z (Z + 1) :=
  ⟨((k.set 0 _).set 1 _).set 2 _, (((Mv.refl _ _ _).setCell (p := ⟨Z, 0, none⟩) (Nat.le_refl _) (Nat.lt_succ_self _) _).setCell (p := ⟨Z, 1, none⟩) (Nat.le_refl _) (Nat.lt_succ_self _) _).setCell (p := ⟨Z, 2, none⟩) (Nat.le_refl _) (Nat.lt_succ_self _) _⟩
theorem put_box {w : World} {Z : Nat} {x0 x1 x2 : Value} (k : Bx w Z 31 [x0, x1, x2]) (y0 y1 y2 : Value) :
    Bx (((w.setCell ⟨Z, 0, none⟩ y0).setCell ⟨Z, 1, none⟩ y1).setCell ⟨Z, 2, none⟩ y2) Z 31 [y0, y1, y2] ∧ Mv w (((w.setCell ⟨Z, 0, none⟩ y0).setCell ⟨Z, 1, none⟩ y1).setCell ⟨Z, 2, none⟩ y2) Z (Z + 1) :=
  ⟨((k.set 0 _).set 1 _).set 2 _, (((Mv.refl _ _ _).setCell (p := ⟨Z, 0, none⟩) (Nat.le_refl _) (Nat.lt_succ_self _) _).setCell (p := ⟨Z, 1, none⟩) (Nat.le_refl _) (Nat.lt_succ_self _) _).setCell (p := ⟨Z, 2, none⟩) (Nat.le_refl _) (Nat.lt_succ_self _) _⟩

set_option maxRecDepth 100000 in
set_option maxHeartbeats 3200000 in
theorem codeR : ∀ (w : World) {l h l2 h2 : Nat} {v v2 : Value} {g : Bs} {c : List Int} (_ : GenerationI w l h v g) (_ : GenerationF g) (_ : IntSI w l2 h2 v2 c) (_ : IntSF c),
    Calls Tryd.prog 61 #[v, v2] w (RetB (fun w l h u => PktR w l h u (codeP g c).1) (codeP g c).2 w) := fun w l h l2 h2 v v2 g c s f s2 f2 => by
  obtain ⟨G, rows⟩ := g
  obtain ⟨_, rfl, hw, ad, n, cap, rfl, t⟩ := id s
  obtain ⟨ad2, n2, cap2, rfl, t2⟩ := s2
  replace hw : -9223372036854775808 ≤ G ∧ G ≤ 9223372036854775807 := hw
  replace t : Sls w l h ad n cap rows := t
  have e1 := t.le
  have e2 := t2.le
  have b1 := t.big
  have b2 := t2.big
  unfold maxLen at b1 b2
  have hn2 : n2 ≤ 1048576 := by have := t2.len; have : c.length ≤ 1048576 := f2; omega
  have hL := Lib.hid t.len
  have hL2 := Lib.hid t2.len
  have hb := (below_box w (.cells #[.int .i64 G, .slice ad n cap] 26)).alloc (by simp) (.cells #[.int .i64 0, .slice none 0 0, .slice none 0 0] 31)
  have hz : ((w.alloc (.cells #[.int .i64 G, .slice ad n cap] 26)).alloc (.cells #[.int .i64 0, .slice none 0 0, .slice none 0 0] 31)).heap.size = w.heap.size + 1 + 1 := by simp
  have kG := (Bx.new w [.int .i64 G, .slice ad n cap] 26).alloc (.cells #[.int .i64 0, .slice none 0 0, .slice none 0 0] 31)
  have kZ := Bx.new (w.alloc (.cells #[.int .i64 G, .slice ad n cap] 26)) [.int .i64 0, .slice none 0 0, .slice none 0 0] 31
  rw [World.size_alloc] at kZ
  have KG := Lib.hid (fun (w' : World) (q : Below w.heap.size w w') => spec_isGen w' (b := (G, rows)) (GenerationI_below s q (.inr (Nat.le_refl _))))
  have KV := Lib.hid (fun (w' : World) (q : Below w.heap.size w w') => spec_isVec w' (t2.below q (.inr (Nat.le_refl _))))
  have HT := Lib.hid t
  have HT2 := Lib.hid t2
  obtain ⟨R, hR⟩ : ∃ R, R = codeP (G, rows) c := ⟨_, rfl⟩
  rw [← hR]
  have HR := Lib.hid hR
  have c0 := kG.cell (i := 0) rfl
  have c1 := kG.cell (i := 1) rfl
  clear s f t t2 hR
  go_enter Tryd.func61, Tryd.ntmps61
  go_wp2_with fail
  go_at_call 10
  change Bx ((w.alloc (.cells #[.int .i64 G, .slice ad n cap] 26)).alloc (.cells #[.int .i64 0, .slice none 0 0, .slice none 0 0] 31)) _ _ _ at kG
  generalize (w.alloc (.cells #[.int .i64 G, .slice ad n cap] 26)).alloc (.cells #[.int .i64 0, .slice none 0 0, .slice none 0 0] 31) = D at *
  refine (KG.out D hb).mono ?_
  rintro e y1 ⟨rfl, b3⟩
  have hzy := b3.size
  replace kG := kG.below b3 (by omega)
  replace kZ := kZ.below b3 (by omega)
  replace hb := hb.trans (b3.mono (by omega))
  clear c0 c1 b3
  have c0 := kG.cell (i := 0) rfl
  have c1 := kG.cell (i := 1) rfl
  have z0 := kZ.cell (i := 0) rfl
  have z1 := kZ.cell (i := 1) rfl
  have z2 := kZ.cell (i := 2) rfl
  have f0 := kZ.free 0
  have f1 := kZ.free 1
  have f2' := kZ.free 2
  cases hv : Gen.isGen (G, rows)
  · obtain ⟨k9, m9⟩ := zero_box kZ
    have g0 := k9.cell (i := 0) rfl
    have g1 := k9.cell (i := 1) rfl
    have g2 := k9.cell (i := 2) rfl
    have HB := Lib.hid (hb.trans (m9.below (by omega) (by omega)))
    have HE := Lib.hid (code_no (g := (G, rows)) (c := c) (by rw [hv]; rfl))
    have hsz : (((y1.setCell ⟨w.heap.size + 1, 0, none⟩ (.int .i64 0)).setCell ⟨w.heap.size + 1, 1, none⟩ (.slice none 0 0)).setCell ⟨w.heap.size + 1, 2, none⟩ (.slice none 0 0)).heap.size = y1.heap.size := by simp [World.setCell]
    clear kG kZ k9 m9 hb hv
    go_wp2
    generalize ((y1.setCell ⟨w.heap.size + 1, 0, none⟩ (.int .i64 0)).setCell ⟨w.heap.size + 1, 1, none⟩ (.slice none 0 0)).setCell ⟨w.heap.size + 1, 2, none⟩ (.slice none 0 0) = y9 at *
    refine bodyPost_ret (by simp [results, Tryd.results61, go_sem, g0, g1, g2]; rfl) rfl ?_
    rw [HR.out, HE.out]
    exact ⟨_, rfl, PktR.zero _ HB.out.size, HB.out⟩
  have HGN := Lib.hid (gen_small hv)
  go_wp2_with fail
  go_at_call 11
  refine (KV.out y1 hb).mono ?_
  rintro e y2 ⟨rfl, rfl⟩
  obtain ⟨B2, hB2⟩ : ∃ B, Vec.isVec c = B := ⟨_, rfl⟩
  rw [hB2]
  by_cases hok : B2 = true ∧ n2 = n
  case neg =>
    obtain ⟨k9, m9⟩ := zero_box kZ
    have g0 := k9.cell (i := 0) rfl
    have g1 := k9.cell (i := 1) rfl
    have g2 := k9.cell (i := 2) rfl
    have HB := Lib.hid (hb.trans (m9.below (by omega) (by omega)))
    have HE := Lib.hid (code_no (g := (G, rows)) (c := c) (by
      rw [hv, Bool.true_and, hB2, hL2.out]
      show (B2 && decide (n2 = rows.length)) = false
      rw [hL.out]
      cases B2
      · rfl
      · rw [Bool.true_and]; exact decide_eq_false fun e => hok ⟨rfl, e⟩))
    cases B2
    · clear hok kG kZ k9 m9 hb hv hB2
      go_wp2
      generalize ((y1.setCell ⟨w.heap.size + 1, 0, none⟩ (.int .i64 0)).setCell ⟨w.heap.size + 1, 1, none⟩ (.slice none 0 0)).setCell ⟨w.heap.size + 1, 2, none⟩ (.slice none 0 0) = y9 at *
      refine bodyPost_ret (by simp [results, Tryd.results61, go_sem, g0, g1, g2]; rfl) rfl ?_
      rw [HR.out, HE.out]
      exact ⟨_, rfl, PktR.zero _ HB.out.size, HB.out⟩
    · have hne : n2 ≠ n := fun e => hok ⟨rfl, e⟩
      have hcmp : ((n2 : Int) != (n : Int)) = true := by simp; omega
      clear hok kG kZ k9 m9 hb hv hB2 hne
      go_wp2
      generalize ((y1.setCell ⟨w.heap.size + 1, 0, none⟩ (.int .i64 0)).setCell ⟨w.heap.size + 1, 1, none⟩ (.slice none 0 0)).setCell ⟨w.heap.size + 1, 2, none⟩ (.slice none 0 0) = y9 at *
      refine bodyPost_ret (by simp [results, Tryd.results61, go_sem, g0, g1, g2]; rfl) rfl ?_
      rw [HR.out, HE.out]
      exact ⟨_, rfl, PktR.zero _ HB.out.size, HB.out⟩
  obtain ⟨rfl, rfl⟩ := hok
  have HE := Lib.hid (code_ok (g := (G, rows)) (c := c) (by
    rw [hv, Bool.true_and, hB2, hL2.out]
    show (true && decide (n2 = rows.length)) = true
    rw [hL.out]
    simp))
  clear hv hB2
  have hcmp : ((n2 : Int) != (n2 : Int)) = false := by simp
  go_wp2
  refine wp_region_held (S := fun w' => w'.cell? ⟨w.heap.size, 0, none⟩ = some (.int .i64 G) ∧ w'.cell? ⟨w.heap.size, 1, none⟩ = some (.slice ad n2 cap)) (by kernel_rfl) ?_
  change wpAnyH _ _ _ _ _ _ _ _ (World.drew _)
  have hbD := hb.drew
  have kGD := kG.drew
  have kZD := kZ.drew
  have hzD : y1.drew.heap.size = y1.heap.size := rfl
  clear c0 c1 z0 z1 z2 f0 f1 f2' kG kZ hb hcmp
  generalize y1.drew = E at *
  have HH := Lib.hid (show E.cell? ⟨w.heap.size, 0, none⟩ = some (.int .i64 G) ∧ E.cell? ⟨w.heap.size, 1, none⟩ = some (.slice ad n2 cap) from ⟨kGD.cell (i := 0) rfl, kGD.cell (i := 1) rfl⟩)
  refine wpAnyH_take (i := 0) (oi := ⟨some _, _, _, _, _, _⟩) (v := ?_) rfl (by kernel_rfl) (by kernel_rfl) (by kernel_rfl) (fun _ _ _ h => h) (Or.inl ⟨by rfl, ?_⟩) HH.out ?_
  rotate_left
  · intro wS hSw
    try dsimp only at hSw
    go_simp
    all_goals (with_reducible rfl)
  simp only [Act.put, List.setIfInBounds_toArray, List.set_cons_zero, List.set_cons_succ]
  refine wpAnyH_take (i := 1) (oi := ⟨some _, _, _, _, _, _⟩) (v := ?_) rfl (by kernel_rfl) (by kernel_rfl) (by kernel_rfl) (fun _ _ _ h => h) (Or.inl ⟨by rfl, ?_⟩) HH.out ?_
  rotate_left
  · intro wS hSw
    try dsimp only at hSw
    go_simp
    all_goals (with_reducible rfl)
  simp only [Act.put, List.setIfInBounds_toArray, List.set_cons_zero, List.set_cons_succ]
  refine wpAnyH_take (i := 3) (oi := ⟨some _, _, _, _, _, _⟩) (v := ?_) rfl (by kernel_rfl) (by kernel_rfl) (by kernel_rfl) (fun _ _ _ h => h) (Or.inl ⟨by rfl, ?_⟩) HH.out ?_
  rotate_left
  · intro wS hSw
    try dsimp only at hSw
    go_simp
    all_goals (with_reducible rfl)
  simp only [Act.put, List.setIfInBounds_toArray, List.set_cons_zero, List.set_cons_succ]
  refine wpAnyH_take (i := 5) (oi := ⟨some _, _, _, _, _, _⟩) (v := ?_) rfl (by kernel_rfl) (by kernel_rfl) (by kernel_rfl) (fun _ _ _ h => h) (Or.inl ⟨by rfl, ?_⟩) HH.out ?_
  rotate_left
  · intro wS hSw
    try dsimp only at hSw
    go_simp
    all_goals (with_reducible rfl)
  simp only [Act.put, List.setIfInBounds_toArray, List.set_cons_zero, List.set_cons_succ]
  refine wpAnyH_take (i := 6) (oi := ⟨some _, _, _, _, _, _⟩) (v := ?_) rfl (by kernel_rfl) (by kernel_rfl) (by kernel_rfl) (fun _ _ _ h => h) (Or.inl ⟨by rfl, ?_⟩) HH.out ?_
  rotate_left
  · intro wS hSw
    try dsimp only at hSw
    go_simp
    all_goals (with_reducible rfl)
  simp only [Act.put, List.setIfInBounds_toArray, List.set_cons_zero, List.set_cons_succ]
  refine wpAnyH_take (i := 7) (oi := ⟨some _, _, _, _, _, _⟩) (v := ?_) rfl (by kernel_rfl) (by kernel_rfl) (by kernel_rfl) (fun _ _ _ h => h) (Or.inl ⟨by rfl, ?_⟩) HH.out ?_
  rotate_left
  · intro wS hSw
    try dsimp only at hSw
    go_simp
    all_goals (with_reducible rfl)
  simp only [Act.put, List.setIfInBounds_toArray, List.set_cons_zero, List.set_cons_succ]
  refine wpAnyH_ready (rs := [2]) (by kernel_rfl) (by simp) ?_
  refine AllReadyH.cons (o := ⟨some _, _, _, _, _, _⟩) rfl (fun Kq hKq => ?_) AllReadyH.nil
  go_simp
  have bE := below_box E (.cells #[] 3)
  have zE : (E.alloc (.cells #[] 3)).heap.size = E.heap.size + 1 := by simp
  generalize E.alloc (.cells #[] 3) = E1 at *
  replace kGD := kGD.below bE (by omega)
  replace kZD := kZD.below bE (by omega)
  have hb1 := hbD.trans (bE.mono (by omega))
  clear bE HH
  have HH := Lib.hid (show E1.cell? ⟨w.heap.size, 0, none⟩ = some (.int .i64 G) ∧ E1.cell? ⟨w.heap.size, 1, none⟩ = some (.slice ad n2 cap) from ⟨kGD.cell (i := 0) rfl, kGD.cell (i := 1) rfl⟩)
  refine hKq.out _ _ HH.out (fun _ => ?_)
  clear hKq Kq
  refine wpAnyH_ready (rs := [4]) (by kernel_rfl) (by simp) ?_
  refine AllReadyH.cons (o := ⟨some _, _, _, _, _, _⟩) rfl (fun Kq hKq => ?_) AllReadyH.nil
  refine step_app (Row.nil E1 E1.heap.size E1.heap.size .i64 3 _) (HT2.out.below hb1 (.inr (Nat.le_refl _))) Tryd.underlying27 info_int (by unfold maxLen; omega) (by omega) (Nat.le_refl _) rfl _ _ rfl rfl rfl ?_
  intro ad4 cap4 E2 r4 m4
  have bE2 : Below E1.heap.size E1 E2 := m4.below (Nat.le_refl _) (Nat.le_refl _)
  have zE2 := bE2.size
  rw [List.nil_append, Nat.zero_add] at r4
  replace kGD := kGD.below bE2 (by omega)
  replace kZD := kZD.below bE2 (by omega)
  have hb2 := hb1.trans (bE2.mono (by omega))
  clear bE2 m4 HH
  have HH := Lib.hid (show E2.cell? ⟨w.heap.size, 0, none⟩ = some (.int .i64 G) ∧ E2.cell? ⟨w.heap.size, 1, none⟩ = some (.slice ad n2 cap) from ⟨kGD.cell (i := 0) rfl, kGD.cell (i := 1) rfl⟩)
  refine hKq.out _ _ HH.out (fun _ => ?_)
  clear hKq Kq
  try simp only [Act.put, List.setIfInBounds_toArray, List.set_cons_zero, List.set_cons_succ]
  refine wpAnyH_ready (rs := [8]) (by kernel_rfl) (by simp) ?_
  refine AllReadyH.cons (o := ⟨some _, _, _, _, _, _⟩) rfl (fun Kq hKq => ?_) AllReadyH.nil
  go_simp
  refine (spec_comb E2 (HT.out.below hb2 (.inr (Nat.le_refl _))) (HT2.out.below hb2 (.inr (Nat.le_refl _))) HGN.out.2).mono ?_
  rintro e E3 ⟨ad5, n5, cap5, rfl, r5, b5⟩
  have zE3 := b5.size
  have r4' := r4.below b5 (.inl (Nat.le_refl _))
  replace kGD := kGD.below b5 (by omega)
  replace kZD := kZD.below b5 (by omega)
  have hb3 := hb2.trans (b5.mono (by omega))
  clear b5 HH r4
  have HH := Lib.hid (show E3.cell? ⟨w.heap.size, 0, none⟩ = some (.int .i64 G) ∧ E3.cell? ⟨w.heap.size, 1, none⟩ = some (.slice ad n2 cap) from ⟨kGD.cell (i := 0) rfl, kGD.cell (i := 1) rfl⟩)
  refine hKq.out _ _ HH.out (fun _ => ?_)
  clear hKq Kq
  refine wpAnyH_take (i := 9) (oi := ⟨some _, _, _, _, _, _⟩) (v := ?_) rfl (by kernel_rfl) (by kernel_rfl) (by kernel_rfl) (fun _ _ _ h => h) (Or.inl ⟨by rfl, ?_⟩) HH.out ?_
  rotate_left
  · intro wS hSw
    try dsimp only at hSw
    go_simp
    all_goals (with_reducible rfl)
  simp only [Act.put, List.setIfInBounds_toArray, List.set_cons_zero, List.set_cons_succ]
  refine wpAnyH_ready (rs := [10]) (by kernel_rfl) (by simp) ?_
  refine AllReadyH.cons (o := ⟨none, _, _, _, _, _⟩) rfl (fun Kq hKq => ?_) AllReadyH.nil
  obtain ⟨k9, m9⟩ := put_box kZD (.int .i64 G) (.slice ad4 n2 cap4) (.slice ad5 n5 cap5)
  have z0 := kZD.cell (i := 0) rfl
  have z1 := kZD.cell (i := 1) rfl
  have z2 := kZD.cell (i := 2) rfl
  have f0 := kZD.free 0
  have f1 := kZD.free 1
  have f2' := kZD.free 2
  go_simp
  have hsz : (((E3.setCell ⟨w.heap.size + 1, 0, none⟩ (.int .i64 G)).setCell ⟨w.heap.size + 1, 1, none⟩ (.slice ad4 n2 cap4)).setCell ⟨w.heap.size + 1, 2, none⟩ (.slice ad5 n5 cap5)).heap.size = E3.heap.size := by simp [World.setCell]
  generalize ((E3.setCell ⟨w.heap.size + 1, 0, none⟩ (.int .i64 G)).setCell ⟨w.heap.size + 1, 1, none⟩ (.slice ad4 n2 cap4)).setCell ⟨w.heap.size + 1, 2, none⟩ (.slice ad5 n5 cap5) = E9 at *
  have kG9 := kGD.mv m9 (by omega)
  have r49 := r4'.mv m9 (by omega)
  have r59 := r5.mv m9 (by omega)
  have hb9 := hb3.trans (m9.below (by omega) (by omega))
  clear z0 z1 z2 f0 f1 f2' HH m9
  have HH := Lib.hid (show E9.cell? ⟨w.heap.size, 0, none⟩ = some (.int .i64 G) ∧ E9.cell? ⟨w.heap.size, 1, none⟩ = some (.slice ad n2 cap) from ⟨kG9.cell (i := 0) rfl, kG9.cell (i := 1) rfl⟩)
  refine hKq.out _ _ HH.out (fun _ => ?_)
  clear hKq Kq
  refine wpAnyH_take (i := 11) (oi := ⟨some _, _, _, _, _, _⟩) (v := ?_) rfl (by kernel_rfl) (by kernel_rfl) (by kernel_rfl) (fun _ _ _ h => h) (Or.inl ⟨by rfl, ?_⟩) HH.out ?_
  rotate_left
  · intro wS hSw
    try dsimp only at hSw
    go_simp
    all_goals (with_reducible rfl)
  simp only [Act.put, List.setIfInBounds_toArray, List.set_cons_zero, List.set_cons_succ]
  refine wpAnyH_done (by kernel_rfl) ?_ _
  have g0 := k9.cell (i := 0) rfl
  have g1 := k9.cell (i := 1) rfl
  have g2 := k9.cell (i := 2) rfl
  have HA := Lib.hid (And.intro r49 (And.intro r59 hb9))
  clear HH k9 kG9 r49 r59 hb9 kGD kZD r4' r5 hb1 hb2 hb3 hbD
  go_wp2
  refine bodyPost_ret (by simp [results, Tryd.results61, go_sem, g0, g1, g2]; rfl) rfl ?_
  rw [HR.out, HE.out]
  exact ⟨_, rfl, ⟨E2.heap.size, _, _, _, _, _, _, rfl, hw, by omega, by omega, HA.out.1.lo (by omega), HA.out.2.1.mono (by omega)⟩, HA.out.2.2⟩
theorem codeS : CodeSp := fun w _ _ _ _ _ _ _ _ s f s2 f2 => (codeR w s f s2 f2).mono fun _ _ ⟨u, e, o, b⟩ => ⟨u, e, o.own, b⟩
end Go.Proofs.YtkhfkccbnhjmjaaDoor.PktW
namespace Go.Proofs.YtkhfkccbnhjmjaaDoor.PktW
open Go.ChangeShapes Go.WideShapes Go.ChangeAt Go.RowKit
open Go.Proofs.YtkhfkccbnhjmjaaDoor.Drawn Go.Proofs.YtkhfkccbnhjmjaaDoor.Seq Go.Proofs.YtkhfkccbnhjmjaaDoor.Help Go.Proofs.YtkhfkccbnhjmjaaDoor.FieldW Go.Proofs.YtkhfkccbnhjmjaaDoor.Vec Go.Proofs.YtkhfkccbnhjmjaaDoor.VecW Go.Proofs.YtkhfkccbnhjmjaaDoor.Mat Go.Proofs.YtkhfkccbnhjmjaaDoor.MatW Go.Proofs.YtkhfkccbnhjmjaaDoor.Shape Go.Proofs.YtkhfkccbnhjmjaaDoor.Gen Go.Proofs.YtkhfkccbnhjmjaaDoor.GenW Go.Proofs.YtkhfkccbnhjmjaaDoor.Deep Go.Proofs.YtkhfkccbnhjmjaaDoor.Pkt

end Go.Proofs.YtkhfkccbnhjmjaaDoor.PktW
namespace Go.Proofs.YtkhfkccbnhjmjaaDoor.PktW
open Go.ChangeShapes Go.WideShapes Go.ChangeAt Go.RowKit
open Go.Proofs.YtkhfkccbnhjmjaaDoor.Drawn Go.Proofs.YtkhfkccbnhjmjaaDoor.Seq Go.Proofs.YtkhfkccbnhjmjaaDoor.Help Go.Proofs.YtkhfkccbnhjmjaaDoor.FieldW Go.Proofs.YtkhfkccbnhjmjaaDoor.Vec Go.Proofs.YtkhfkccbnhjmjaaDoor.VecW Go.Proofs.YtkhfkccbnhjmjaaDoor.Mat Go.Proofs.YtkhfkccbnhjmjaaDoor.MatW Go.Proofs.YtkhfkccbnhjmjaaDoor.Shape Go.Proofs.YtkhfkccbnhjmjaaDoor.Gen Go.Proofs.YtkhfkccbnhjmjaaDoor.GenW Go.Proofs.YtkhfkccbnhjmjaaDoor.Deep Go.Proofs.YtkhfkccbnhjmjaaDoor.Pkt

theorem code_fit {g : G2} {c : List Int} : CodedPacketF (codeP g c).1 := fit_code g c
set_option maxRecDepth 100000 in
set_option maxHeartbeats 3200000 in
theorem consS : ConsSp := fun w l h l2 h2 v v2 g p s f s2 f2 => by
  obtain ⟨G, rows⟩ := g
  obtain ⟨_, rfl, hw, ad, n, cap, rfl, t⟩ := id s
  replace hw : -9223372036854775808 ≤ G ∧ G ≤ 9223372036854775807 := hw
  obtain ⟨x, C, P⟩ := p
  obtain ⟨ad1, n1, cap1, ad2, n2, cap2, rfl, hx, t1, t2⟩ := pkt_open s2
  replace hx : -9223372036854775808 ≤ x ∧ x ≤ 9223372036854775807 := hx
  replace t1 : Sl w l2 h2 .i64 ad1 n1 cap1 C := t1
  have hfC : IntSF C := by
    have e : Sz tPkt (x, (C, P)) = 0 + (Sz tIs C + Sz tIs P) := rfl
    have f' : Sz tPkt (x, (C, P)) ≤ 1048576 := f2
    rw [e, Sz_IS, Sz_IS] at f'
    unfold IntSF
    omega
  have hb := (below_box w (.cells #[.int .i64 G, .slice ad n cap] 26)).alloc (by simp) (.cells #[.int .i64 x, .slice ad1 n1 cap1, .slice ad2 n2 cap2] 31)
  have hz : ((w.alloc (.cells #[.int .i64 G, .slice ad n cap] 26)).alloc (.cells #[.int .i64 x, .slice ad1 n1 cap1, .slice ad2 n2 cap2] 31)).heap.size = w.heap.size + 1 + 1 := by simp
  have kG := (Bx.new w [.int .i64 G, .slice ad n cap] 26).alloc (.cells #[.int .i64 x, .slice ad1 n1 cap1, .slice ad2 n2 cap2] 31)
  have kP := Bx.new (w.alloc (.cells #[.int .i64 G, .slice ad n cap] 26)) [.int .i64 x, .slice ad1 n1 cap1, .slice ad2 n2 cap2] 31
  rw [World.size_alloc] at kP
  have KC := Lib.hid (fun (w' : World) (q : Below w.heap.size w w') => codeS w' (GenerationI_below s q (.inr (Nat.le_refl _))) f (v2 := .slice ad1 n1 cap1) (c := C) ⟨_, _, _, rfl, t1.below q (.inr (Nat.le_refl _))⟩ hfC)
  have KE := Lib.hid (fun (w' : World) (q : Below w.heap.size w w') {l3 h3 : Nat} {v3 : Value} {y : P3} (r : CodedPacketI w' l3 h3 v3 y) (hf : CodedPacketF y) => eqPS w' (CodedPacketI_below s2 q (.inr (Nat.le_refl _))) f2 r hf)
  obtain ⟨R, hR⟩ : ∃ R, R = consP (G, rows) (x, (C, P)) := ⟨_, rfl⟩
  rw [← hR]
  have HR := Lib.hid hR
  have HF := Lib.hid (code_fit (g := (G, rows)) (c := C))
  have c0 := kG.cell (i := 0) rfl
  have c1 := kG.cell (i := 1) rfl
  have p0 := kP.cell (i := 0) rfl
  have p1 := kP.cell (i := 1) rfl
  have p2 := kP.cell (i := 2) rfl
  clear s f s2 f2 t t1 t2 hR hfC
  go_enter Tryd.func24, Tryd.ntmps24
  go_wp2_with fail
  go_at_call 61
  change Bx ((w.alloc (.cells #[.int .i64 G, .slice ad n cap] 26)).alloc (.cells #[.int .i64 x, .slice ad1 n1 cap1, .slice ad2 n2 cap2] 31)) _ _ _ at kG
  generalize (w.alloc (.cells #[.int .i64 G, .slice ad n cap] 26)).alloc (.cells #[.int .i64 x, .slice ad1 n1 cap1, .slice ad2 n2 cap2] 31) = D at *
  refine (KC.out D hb).mono ?_
  obtain ⟨Q, hQ⟩ : ∃ Q, codeP (G, rows) C = Q := ⟨_, rfl⟩
  have HE := Lib.hid (show consP (G, rows) (x, (C, P)) = bif Q.2 then sameP (x, (C, P)) Q.1 else false by rw [← hQ]; rfl)
  rw [hQ] at HF
  rw [hQ]
  clear hQ
  obtain ⟨⟨q0, q1, q2⟩, qb⟩ := Q
  rintro e y1 ⟨u, rfl, o5, b5⟩
  have hzy := b5.size
  have hb3 := hb.trans (b5.mono (by omega))
  obtain ⟨ad5, n5, cap5, ad6, n6, cap6, rfl, hw5, o5⟩ := CodedPacketO_cells o5
  replace kP := kP.below b5 (by omega)
  have hb4 := hb3.alloc (by omega) (.cells #[.int .i64 q0, .slice ad5 n5 cap5, .slice ad6 n6 cap6] 31)
  have bN := below_box y1 (.cells #[.int .i64 q0, .slice ad5 n5 cap5, .slice ad6 n6 cap6] 31)
  have zN : (y1.alloc (.cells #[.int .i64 q0, .slice ad5 n5 cap5, .slice ad6 n6 cap6] 31)).heap.size = y1.heap.size + 1 := by simp
  have kN := Bx.new y1 [.int .i64 q0, .slice ad5 n5 cap5, .slice ad6 n6 cap6] 31
  change Bx (y1.alloc (.cells #[.int .i64 q0, .slice ad5 n5 cap5, .slice ad6 n6 cap6] 31)) _ _ _ at kN
  have oN := CodedPacketI_below (CodedPacketO_is o5) bN (.inl (Nat.le_refl _))
  have kPN := kP.below bN (by omega)
  have g0 := kN.cell (i := 0) rfl
  have g1 := kN.cell (i := 1) rfl
  have g2 := kN.cell (i := 2) rfl
  have r0 := kPN.cell (i := 0) rfl
  have r1 := kPN.cell (i := 1) rfl
  have r2 := kPN.cell (i := 2) rfl
  have HA := Lib.hid (And.intro hb4 oN)
  clear p0 p1 p2 c0 c1 kPN kN kP kG oN o5 hb hb3 hb4 bN b5
  cases qb
  · go_wp2
    go_ret
    rw [HR.out, HE.out]
    exact ⟨rfl, HA.out.1⟩
  go_wp2_with fail
  go_at_call 32
  generalize y1.alloc (.cells #[.int .i64 q0, .slice ad5 n5 cap5, .slice ad6 n6 cap6] 31) = y9 at *
  refine (KE.out y9 HA.out.1 HA.out.2 HF.out).mono ?_
  rintro e w2 ⟨rfl, b2⟩
  have hD2 := Lib.hid (HA.out.1.trans (b2.mono HA.out.1.size))
  clear b2
  go_wp2
  go_ret
  rw [HR.out, HE.out]
  exact ⟨by simp, hD2.out⟩
end Go.Proofs.YtkhfkccbnhjmjaaDoor.PktW
namespace Go.Proofs.YtkhfkccbnhjmjaaDoor.PktW
open Go.ChangeShapes Go.WideShapes Go.ChangeAt Go.RowKit
open Go.Proofs.YtkhfkccbnhjmjaaDoor.Drawn Go.Proofs.YtkhfkccbnhjmjaaDoor.Seq Go.Proofs.YtkhfkccbnhjmjaaDoor.Help Go.Proofs.YtkhfkccbnhjmjaaDoor.FieldW Go.Proofs.YtkhfkccbnhjmjaaDoor.Vec Go.Proofs.YtkhfkccbnhjmjaaDoor.VecW Go.Proofs.YtkhfkccbnhjmjaaDoor.Mat Go.Proofs.YtkhfkccbnhjmjaaDoor.MatW Go.Proofs.YtkhfkccbnhjmjaaDoor.Shape Go.Proofs.YtkhfkccbnhjmjaaDoor.Gen Go.Proofs.YtkhfkccbnhjmjaaDoor.GenW Go.Proofs.YtkhfkccbnhjmjaaDoor.Deep Go.Proofs.YtkhfkccbnhjmjaaDoor.Pkt Go.Proofs.YtkhfkccbnhjmjaaDoor.Enc

end Go.Proofs.YtkhfkccbnhjmjaaDoor.PktW
namespace Go.Proofs.YtkhfkccbnhjmjaaDoor.PktW
open Go.ChangeShapes Go.WideShapes Go.ChangeAt Go.RowKit
open Go.Proofs.YtkhfkccbnhjmjaaDoor.Drawn Go.Proofs.YtkhfkccbnhjmjaaDoor.Seq Go.Proofs.YtkhfkccbnhjmjaaDoor.Help Go.Proofs.YtkhfkccbnhjmjaaDoor.FieldW Go.Proofs.YtkhfkccbnhjmjaaDoor.Vec Go.Proofs.YtkhfkccbnhjmjaaDoor.VecW Go.Proofs.YtkhfkccbnhjmjaaDoor.Mat Go.Proofs.YtkhfkccbnhjmjaaDoor.MatW Go.Proofs.YtkhfkccbnhjmjaaDoor.Shape Go.Proofs.YtkhfkccbnhjmjaaDoor.Gen Go.Proofs.YtkhfkccbnhjmjaaDoor.GenW Go.Proofs.YtkhfkccbnhjmjaaDoor.Deep Go.Proofs.YtkhfkccbnhjmjaaDoor.Pkt Go.Proofs.YtkhfkccbnhjmjaaDoor.Enc Go.Proofs.YtkhfkccbnhjmjaaDoor.Rd Go.Proofs.YtkhfkccbnhjmjaaDoor.Uv

end Go.Proofs.YtkhfkccbnhjmjaaDoor.PktW
namespace Go.Proofs.YtkhfkccbnhjmjaaDoor.PktW
open Go.ChangeShapes Go.WideShapes Go.ChangeAt Go.RowKit
open Go.Proofs.YtkhfkccbnhjmjaaDoor.Drawn Go.Proofs.YtkhfkccbnhjmjaaDoor.Seq Go.Proofs.YtkhfkccbnhjmjaaDoor.Help Go.Proofs.YtkhfkccbnhjmjaaDoor.FieldW Go.Proofs.YtkhfkccbnhjmjaaDoor.Vec Go.Proofs.YtkhfkccbnhjmjaaDoor.VecW Go.Proofs.YtkhfkccbnhjmjaaDoor.Mat Go.Proofs.YtkhfkccbnhjmjaaDoor.MatW Go.Proofs.YtkhfkccbnhjmjaaDoor.RedW Go.Proofs.YtkhfkccbnhjmjaaDoor.Shape Go.Proofs.YtkhfkccbnhjmjaaDoor.Gen Go.Proofs.YtkhfkccbnhjmjaaDoor.GenW Go.Proofs.YtkhfkccbnhjmjaaDoor.Deep Go.Proofs.YtkhfkccbnhjmjaaDoor.Pkt

/-! lists of packets -/
theorem add_two (a : Addr) (k : Nat) : (⟨(a.add k).block, (a.add k).off + 2, none⟩ : Addr) = a.add (k + 2) := by
  unfold Addr.add
  by_cases h : k = 0
  · subst h; simp
  · simp [h]; omega
theorem next_one (a : Addr) (k : Nat) : (⟨(a.add k).block, (a.add k).off + 1, none⟩ : Addr) = a.add (k + 1) := by
  unfold Addr.add
  by_cases h : k = 0
  · subst h; simp
  · simp [h]; omega
theorem pkts_open {w : World} {l h : Nat} {v : Value} {ps : List P3} (s : CodedPacketSI w l h v ps) : ∃ ad n cap, v = .slice ad n cap ∧ ps.length = n ∧ n ≤ cap ∧ cap ≤ maxLen := by
  obtain ⟨ad, n, cap, e, h1, h2, h3, _⟩ := s
  simp at e
  exact ⟨ad, n, cap, e, h1, h2, h3⟩
theorem pkts_at {w : World} {l h : Nat} {ad : Option Addr} {n cap : Nat} {ps : List P3} (s : CodedPacketSI w l h (.slice ad n cap) ps) {j : Nat} (hj : j < n) : ∃ (a : Addr) (p : P3) (ad1 : Option Addr) (n1 cap1 : Nat) (ad2 : Option Addr) (n2 cap2 : Nat), ad = some a ∧ ps[j]? = some p ∧
    w.cell? (a.add (j * 3)) = some (.int .i64 p.1) ∧ w.cell? ⟨(a.add (j * 3)).block, (a.add (j * 3)).off + 1, none⟩ = some (.slice ad1 n1 cap1) ∧ w.cell? ⟨(a.add (j * 3)).block, (a.add (j * 3)).off + 2, none⟩ = some (.slice ad2 n2 cap2) ∧
    (-9223372036854775808 ≤ p.1 ∧ p.1 ≤ 9223372036854775807) ∧ Sl w l h .i64 ad1 n1 cap1 p.2.1 ∧ Sl w l h .i64 ad2 n2 cap2 p.2.2 := by
  obtain ⟨ad', n', cap', e, h1, h2, h3, h4, -, h6⟩ := s
  simp at e
  obtain ⟨rfl, rfl, rfl⟩ := e
  have hx := List.getElem?_eq_getElem (l := ps) (i := j) (by omega)
  obtain ⟨a, es, ea, r⟩ := h6 j _ hx
  have hc := fun (i : Nat) (c : Value) (hc : es[i]? = some c) => r.cell hc
  obtain ⟨d0, es0, rfl, ra0, r1⟩ := r.unp rfl
  obtain ⟨d1, es1, rfl, ra1, r2⟩ := r1.unp rfl
  obtain ⟨ec0, fi0⟩ := ra0.uni
  simp at ec0
  subst ec0
  obtain ⟨ad1, n1, cap1, rfl, s1⟩ := rd_ISI ra1
  have hl := r2.len
  obtain ⟨d2, rfl⟩ := List.length_eq_one_iff.1 hl
  obtain ⟨ad2, n2, cap2, rfl, s2⟩ := rd_ISI r2
  have k0 := hc 0 _ rfl
  have k1 := hc 1 _ rfl
  have k2 := hc 2 _ rfl
  change l ≤ ((a.add (j * 3)).add 0).block ∧ ((a.add (j * 3)).add 0).block < h ∧ w.cell? ((a.add (j * 3)).add 0) = _ at k0
  change l ≤ ((a.add (j * 3)).add 1).block ∧ ((a.add (j * 3)).add 1).block < h ∧ w.cell? ((a.add (j * 3)).add 1) = _ at k1
  change l ≤ ((a.add (j * 3)).add 2).block ∧ ((a.add (j * 3)).add 2).block < h ∧ w.cell? ((a.add (j * 3)).add 2) = _ at k2
  rw [Addr.add_add] at k0 k1 k2
  rw [Nat.add_zero] at k0
  exact ⟨a, _, ad1, n1, cap1, ad2, n2, cap2, ea, hx, k0.2.2, by rw [next_one]; exact k1.2.2, by rw [add_two]; exact k2.2.2, fits_i64.1 fi0, s1, s2⟩
theorem le_sum : ∀ {l : List Nat} {x : Nat}, x ∈ l → x ≤ l.sum
  | _ :: l, _, .head _ => by rw [List.sum_cons]; omega
  | _ :: l, _, .tail _ h => by rw [List.sum_cons]; have := le_sum h; omega
theorem pkts_len {ps : List P3} (h : CodedPacketSF ps) : ps.length ≤ 1048576 := by
  have e1 : Sz (.l tPkt) ps = ps.length + (ps.map (Sz tPkt)).sum := rfl
  unfold CodedPacketSF at h
  omega
theorem pkts_each {ps : List P3} (h : CodedPacketSF ps) {p : P3} (hp : p ∈ ps) : p.2.1.length ≤ 1048576 ∧ p.2.2.length ≤ 1048576 := by
  have e1 : Sz (.l tPkt) ps = ps.length + (ps.map (Sz tPkt)).sum := rfl
  have e2 := le_sum (List.mem_map_of_mem (f := Sz tPkt) hp)
  have e : Sz tPkt p = 0 + (Sz tIs p.2.1 + Sz tIs p.2.2) := rfl
  rw [e, Sz_IS, Sz_IS] at e2
  unfold CodedPacketSF at h
  omega
/-! headers taken over: a list of slices that another's memory holds -/
def Heads (w : World) (l h : Nat) (us : List Value) (xss : List (List Int)) : Prop := us.length = xss.length ∧ ∀ (i : Nat) (x : List Int), xss[i]? = some x → ∃ u, us[i]? = some u ∧ IsInts w l h u x
section
variable {w w' : World} {l h la ha lb hb g : Nat} {e e' : TypeId} {ad ad2 : Option Addr} {n cap n2 cap2 : Nat} {us us2 : List Value} {u : Value} {x : List Int} {xss : List (List Int)}
theorem Heads.nil : Heads w l h [] [] := ⟨rfl, fun i x hx => by simp at hx⟩
theorem Heads.snoc (s : Heads w l h us xss) (hu : IsInts w l h u x) : Heads w l h (us ++ [u]) (xss ++ [x]) := by
  refine ⟨by simp [s.1], fun i y hy => ?_⟩
  by_cases hi : i < xss.length
  · rw [List.getElem?_append_left hi] at hy
    obtain ⟨v, hv, r⟩ := s.2 i y hy
    exact ⟨v, by rw [List.getElem?_append_left (by rw [s.1]; exact hi)]; exact hv, r⟩
  · have hi2 : i = xss.length := by
      have := (List.getElem?_eq_some_iff.1 hy).1
      simp at this; omega
    subst hi2
    simp at hy
    subst hy
    exact ⟨u, by rw [← s.1]; simp, hu⟩
theorem Heads.sls (s : Heads w l h us xss) (r : RowV w' la ha e ad n cap us) (b : Below w.heap.size w w') : Sls w' 0 w'.heap.size ad n cap xss := by
  have rs := r.sl
  refine ⟨by rw [← s.1]; exact rs.len, rs.le, rs.big, rs.nil, fun j xs hx => ?_⟩
  obtain ⟨v, hv, ad', n', cap', rfl, sx⟩ := s.2 j xs hx
  obtain ⟨a, ea, _, _, hc⟩ := rs.cells j _ hv
  have hl := World.block_lt_of_cell? _ _ hc
  rw [add_block] at hl
  exact ⟨a, _, ea, Nat.zero_le _, hl, hc, _, _, _, rfl, ((sx.below b (.inr (Nat.le_refl _))).lt (Nat.le_refl _)).mono (Nat.zero_le _) (Nat.le_refl _)⟩
theorem Put.spot (p : Put w w' l h ad g) : (l ≤ g ∧ g < h) ∨ w.heap.size ≤ g := by
  rcases p with ⟨_, a, b, c, m⟩ | ⟨a, b⟩
  · exact .inl ⟨a, b⟩
  · exact .inr a
theorem Put.row (p : Put w w' la ha ad g) (r : RowV w lb hb e ad2 n2 cap2 us2) (hd : ha ≤ lb ∨ hb ≤ la) (hs : hb ≤ w.heap.size) : RowV w' lb hb e ad2 n2 cap2 us2 := by
  rcases p with ⟨_, a, b, c, m⟩ | ⟨a, b⟩
  · exact r.mv m (by omega)
  · exact r.below b (.inl hs)
end
theorem combine_none (cs : List Int) : combine [] cs = [] := rfl
theorem mix_no {ps : List P3} {c : List Int} {j : Nat} {p : P3} (hj : ps[j]? = some p) (h : p.1 ≠ (ps.getD 0 none3).1) : mixP ps c = (none3, false) := by
  have : oneGen ps = false := by
    unfold oneGen
    rw [List.all_eq_false]
    exact ⟨p, List.mem_of_getElem? hj, by simpa using h⟩
  unfold mixP; rw [this]; rfl
theorem mix_yes {ps : List P3} {c : List Int} (h : ∀ i p, i < ps.length → ps[i]? = some p → p.1 = (ps.getD 0 none3).1) : mixP ps c =
    bif decide ((combine (ps.map (·.2.1)) c).length = 0) || decide ((combine (ps.map (·.2.2)) c).length = 0) then (none3, false)
    else (((ps.getD 0 none3).1, (combine (ps.map (·.2.1)) c, combine (ps.map (·.2.2)) c)), true) := by
  have : oneGen ps = true := by
    unfold oneGen
    rw [List.all_eq_true]
    intro p hp
    obtain ⟨i, hi, rfl⟩ := List.getElem_of_mem hp
    have := h i _ hi (List.getElem?_eq_getElem hi)
    simpa using this
  unfold mixP; rw [this]; rfl
theorem info_heads : (Tryd.prog.info? 27).map (fun i => (i.zero, i.size, i.bytes)) = some (some (.slice none 0 0), 1, 24) := by kernel_rfl

set_option maxRecDepth 100000 in
set_option maxHeartbeats 6400000 in
theorem mixS : MixSp := fun w l h l2 h2 v v2 ps c s f s2 f2 => by
  obtain ⟨ad2, n2, cap2, rfl, t2⟩ := s2
  obtain ⟨ad, n, cap, rfl, hlen, hcap, hbig⟩ := pkts_open s
  have hn : n ≤ 1048576 := by rw [← hlen]; exact pkts_len f
  have HF := Lib.hid (fun p hp => pkts_each f (p := p) hp)
  have hL := Lib.hid hlen
  have e2 := t2.le
  have b2 := t2.big
  unfold maxLen at b2 hbig
  have HS := Lib.hid s
  have HT2 := Lib.hid t2
  have hb := below_box w (.cells #[.int .i64 0, .slice none 0 0, .slice none 0 0] 31)
  have hz : (w.alloc (.cells #[.int .i64 0, .slice none 0 0, .slice none 0 0] 31)).heap.size = w.heap.size + 1 := by simp
  have kZ := Bx.new w [.int .i64 0, .slice none 0 0, .slice none 0 0] 31
  change Bx (w.alloc (.cells #[.int .i64 0, .slice none 0 0, .slice none 0 0] 31)) _ _ _ at kZ
  obtain ⟨R, hR⟩ : ∃ R, R = mixP ps c := ⟨_, rfl⟩
  rw [← hR]
  have HR := Lib.hid hR
  have HB := Lib.hid hb
  have HK := Lib.hid kZ
  clear hR s f f2 t2 hlen hb kZ
  go_enter Tryd.func21, Tryd.ntmps21
  go_wp2
  go_loopw [6, 7, 8] (fun oa ob i wr => ∃ (j : Nat) (adA adB : Option Addr) (capA capB : Nat) (usA usB : List Value) (la ha lb hb : Nat), j ≤ n ∧ oa = .slice adA j capA ∧ ob = .slice adB j capB ∧ i = .int .i64 j ∧
      RowV wr la ha 27 adA j capA usA ∧ RowV wr lb hb 27 adB j capB usB ∧ (w.heap.size + 1 ≤ la ∧ w.heap.size + 1 ≤ lb ∧ (ha ≤ lb ∨ hb ≤ la) ∧ ha ≤ wr.heap.size ∧ hb ≤ wr.heap.size) ∧ Below w.heap.size w wr ∧ w.heap.size + 1 ≤ wr.heap.size ∧
      Bx wr w.heap.size 31 [.int .i64 0, .slice none 0 0, .slice none 0 0] ∧ Hid (∀ i p, i < j → ps[i]? = some p → p.1 = (ps.getD 0 none3).1) ∧
      Hid (Heads w l h usA ((ps.take j).map (·.2.1))) ∧ Hid (Heads w l h usB ((ps.take j).map (·.2.2)))) (fun _ _ i _ => n - (intOf i).toNat)
  case atStart =>
    refine ⟨0, _, _, _, _, [], [], w.heap.size + 1, w.heap.size + 1, w.heap.size + 1, w.heap.size + 1, Nat.zero_le _, rfl, rfl, rfl, RowV.nil _ _ _ _ _, RowV.nil _ _ _ _ _, ⟨by omega, by omega, by omega, by simp, by simp⟩, ?_, by simp, ?_, Lib.hid (fun i p hi => by omega), Lib.hid Heads.nil, Lib.hid Heads.nil⟩
    · exact (HB.out.alloc (by simp) _).alloc (by simp; omega) _
    · exact (HK.out.alloc _).alloc _
  case round =>
    obtain ⟨j, adA, adB, capA, capB, usA, usB, la, ha, lb, hb, hj, rfl, rfl, rfl, rA, rB, ⟨o1, o2, o3, o4, o5⟩, hbw, hsz, kZ, HC, HA, HBs⟩ := hrel
    have lA := rA.le
    have lB := rB.le
    have bA := rA.big
    have bB := rB.big
    unfold maxLen at bA bB
    by_cases hlt : j < n
    · have hbD := hbw.drew
      have rAD := rA.mv (Mv.drew (Mv.refl wr 0 0)) (.inr (Nat.zero_le _))
      have rBD := rB.mv (Mv.drew (Mv.refl wr 0 0)) (.inr (Nat.zero_le _))
      have kZD := kZ.drew
      have zD : wr.drew.heap.size ≤ wr.heap.size ∧ wr.heap.size ≤ wr.drew.heap.size := ⟨Nat.le_refl _, Nat.le_refl _⟩
      obtain ⟨a, p, ad3, n3, cap3, ad4, n4, cap4, rfl, hp, c0, c1, c2, hx, t3, t4⟩ := pkts_at HS.out hlt
      have hlb := World.block_lt_of_cell? _ _ c0
      replace c0 := (hbD.cell (World.block_lt_of_cell? _ _ c0)).trans c0
      replace c1 := (hbD.cell (World.block_lt_of_cell? _ _ c1)).trans c1
      replace c2 := (hbD.cell (World.block_lt_of_cell? _ _ c2)).trans c2
      obtain ⟨a', p0, -, -, -, -, -, -, ea, hp0, d0, -, -, hx0, -, -⟩ := pkts_at HS.out (j := 0) (by omega)
      replace d0 := (hbD.cell (World.block_lt_of_cell? _ _ d0)).trans d0
      obtain rfl := Option.some.inj ea
      have d1 : wr.drew.cell? a = some (.int .i64 p0.1) := by rw [← d0, Nat.zero_mul]; unfold Addr.add; simp
      have hD : ps.getD 0 none3 = p0 := by rw [List.getD_eq_getElem?_getD, hp0]; rfl
      have HP := Lib.hid hp
      have h0n : 0 < n := by omega
      clear ea hp hp0 rA rB kZ hbw
      have HH := Lib.hid (show wr.drew.cell? (a.add (j * 3)) = some (.int .i64 p.1) ∧ wr.drew.cell? a = some (.int .i64 p0.1) from ⟨c0, d1⟩)
      by_cases hg : p.1 = p0.1
      case neg =>
        have hgb : (p.1 != p0.1) = true := by simpa using hg
        have HE := Lib.hid (mix_no (c := c) HP.out (by rw [hD]; exact hg))
        obtain ⟨k9, m9⟩ := zero_box kZD
        have z0 := kZD.cell (i := 0) rfl
        have z1 := kZD.cell (i := 1) rfl
        have z2 := kZD.cell (i := 2) rfl
        have f0 := kZD.free 0
        have f1 := kZD.free 1
        have f2' := kZD.free 2
        have g0 := k9.cell (i := 0) rfl
        have g1 := k9.cell (i := 1) rfl
        have g2 := k9.cell (i := 2) rfl
        have HBB := Lib.hid (hbD.trans (m9.below (by omega) (by omega)))
        clear hg kZD k9 m9 hbD rAD rBD HC HA HBs hD t3 t4 c0 c1 c2 d0 d1
        go_wp2
        refine wp_region_held (S := fun w' => w'.cell? (a.add (j * 3)) = some (.int .i64 p.1) ∧ w'.cell? a = some (.int .i64 p0.1)) (by kernel_rfl) ?_
        change wpAnyH _ _ _ _ _ _ _ _ wr.drew
        generalize wr.drew = D at *
        refine wpAnyH_take (i := 0) (oi := ⟨some _, _, _, _, _, _⟩) (v := ?_) rfl (by kernel_rfl) (by kernel_rfl) (by kernel_rfl) (fun _ _ _ h => h) (Or.inl ⟨by rfl, ?_⟩) HH.out ?_
        rotate_left
        · intro wS hSw
          try dsimp only at hSw
          go_simp
          all_goals (with_reducible rfl)
        simp only [Act.put, List.setIfInBounds_toArray, List.set_cons_zero, List.set_cons_succ]
        refine wpAnyH_take (i := 1) (oi := ⟨some _, _, _, _, _, _⟩) (v := ?_) rfl (by kernel_rfl) (by kernel_rfl) (by kernel_rfl) (fun _ _ _ h => h) (Or.inl ⟨by rfl, ?_⟩) HH.out ?_
        rotate_left
        · intro wS hSw
          try dsimp only at hSw
          go_simp
          all_goals (with_reducible rfl)
        simp only [Act.put, List.setIfInBounds_toArray, List.set_cons_zero, List.set_cons_succ]
        refine wpAnyH_take (i := 2) (oi := ⟨some _, _, _, _, _, _⟩) (v := ?_) rfl (by kernel_rfl) (by kernel_rfl) (by kernel_rfl) (fun _ _ _ h => h) (Or.inl ⟨by rfl, ?_⟩) HH.out ?_
        rotate_left
        · intro wS hSw
          try dsimp only at hSw
          go_simp
          all_goals (with_reducible rfl)
        simp only [Act.put, List.setIfInBounds_toArray, List.set_cons_zero, List.set_cons_succ]
        refine wpAnyH_take (i := 3) (oi := ⟨some _, _, _, _, _, _⟩) (v := ?_) rfl (by kernel_rfl) (by kernel_rfl) (by kernel_rfl) (fun _ _ _ h => h) (Or.inl ⟨by rfl, ?_⟩) HH.out ?_
        rotate_left
        · intro wS hSw
          try dsimp only at hSw
          go_simp
          all_goals (with_reducible rfl)
        simp only [Act.put, List.setIfInBounds_toArray, List.set_cons_zero, List.set_cons_succ]
        refine wpAnyH_take (i := 4) (oi := ⟨some _, _, _, _, _, _⟩) (v := ?_) rfl (by kernel_rfl) (by kernel_rfl) (by kernel_rfl) (fun _ _ _ h => h) (Or.inl ⟨by rfl, ?_⟩) HH.out ?_
        rotate_left
        · intro wS hSw
          try dsimp only at hSw
          go_simp
          all_goals (with_reducible rfl)
        simp only [Act.put, List.setIfInBounds_toArray, List.set_cons_zero, List.set_cons_succ]
        refine wpAnyH_take (i := 5) (oi := ⟨some _, _, _, _, _, _⟩) (v := ?_) rfl (by kernel_rfl) (by kernel_rfl) (by kernel_rfl) (fun _ _ _ h => h) (Or.inl ⟨by rfl, ?_⟩) HH.out ?_
        rotate_left
        · intro wS hSw
          try dsimp only at hSw
          go_simp
          all_goals (with_reducible rfl)
        simp only [Act.put, List.setIfInBounds_toArray, List.set_cons_zero, List.set_cons_succ]
        refine wpAnyH_take (i := 6) (oi := ⟨some _, _, _, _, _, _⟩) (v := ?_) rfl (by kernel_rfl) (by kernel_rfl) (by kernel_rfl) (fun _ _ _ h => h) (Or.inl ⟨by rfl, ?_⟩) HH.out ?_
        rotate_left
        · intro wS hSw
          try dsimp only at hSw
          go_simp
          all_goals (with_reducible rfl)
        simp only [Act.put, List.setIfInBounds_toArray, List.set_cons_zero, List.set_cons_succ]
        refine wpAnyH_take (i := 7) (oi := ⟨some _, _, _, _, _, _⟩) (v := ?_) rfl (by kernel_rfl) (by kernel_rfl) (by kernel_rfl) (fun _ _ _ h => h) (Or.inl ⟨by rfl, ?_⟩) HH.out ?_
        rotate_left
        · intro wS hSw
          try dsimp only at hSw
          go_simp
          all_goals (with_reducible rfl)
        simp only [Act.put, List.setIfInBounds_toArray, List.set_cons_zero, List.set_cons_succ]
        refine wpAnyH_take (i := 8) (oi := ⟨some _, _, _, _, _, _⟩) (v := ?_) rfl (by kernel_rfl) (by kernel_rfl) (by kernel_rfl) (fun _ _ _ h => h) (Or.inl ⟨by rfl, ?_⟩) HH.out ?_
        rotate_left
        · intro wS hSw
          try dsimp only at hSw
          go_simp
          all_goals (with_reducible rfl)
        simp only [Act.put, List.setIfInBounds_toArray, List.set_cons_zero, List.set_cons_succ]
        refine wpAnyH_take (i := 9) (oi := ⟨some _, _, _, _, _, _⟩) (v := ?_) rfl (by kernel_rfl) (by kernel_rfl) (by kernel_rfl) (fun _ _ _ h => h) (Or.inl ⟨by rfl, ?_⟩) HH.out ?_
        rotate_left
        · intro wS hSw
          try dsimp only at hSw
          go_simp
          all_goals (with_reducible rfl)
        simp only [Act.put, List.setIfInBounds_toArray, List.set_cons_zero, List.set_cons_succ]
        refine wpAnyH_done (by kernel_rfl) ?_ _
        go_wp2
        generalize ((D.setCell ⟨w.heap.size, 0, none⟩ (.int .i64 0)).setCell ⟨w.heap.size, 1, none⟩ (.slice none 0 0)).setCell ⟨w.heap.size, 2, none⟩ (.slice none 0 0) = y9 at *
        refine bodyPost_ret (by simp [results, Tryd.results21, go_sem, g0, g1, g2]; rfl) rfl ?_
        rw [HR.out, HE.out]
        exact ⟨_, rfl, pkt_none _ _ _ HBB.out.size, HBB.out⟩
      have hgb : (p.1 != p0.1) = false := by simpa using hg
      have HC2 := Lib.hid (show ∀ i q, i < j + 1 → ps[i]? = some q → q.1 = (ps.getD 0 none3).1 from fun i q hi hq => by
        by_cases h : i < j
        · exact HC.out i q h hq
        · obtain rfl : i = j := by omega
          rw [HP.out] at hq
          obtain rfl := Option.some.inj hq
          rw [hD]; exact hg)
      have sl3 := Lib.hid (show IsInts w l h (.slice ad3 n3 cap3) p.2.1 from ⟨_, _, _, rfl, t3⟩)
      have sl4 := Lib.hid (show IsInts w l h (.slice ad4 n4 cap4) p.2.2 from ⟨_, _, _, rfl, t4⟩)
      have HA2 := Lib.hid (show Heads w l h (usA ++ [.slice ad3 n3 cap3]) ((ps.take (j + 1)).map (·.2.1)) by
        rw [take_more HP.out, List.map_append]; exact HA.out.snoc sl3.out)
      have HB2 := Lib.hid (show Heads w l h (usB ++ [.slice ad4 n4 cap4]) ((ps.take (j + 1)).map (·.2.2)) by
        rw [take_more HP.out, List.map_append]; exact HBs.out.snoc sl4.out)
      clear hg hD HA HBs HC t3 t4
      go_wp2
      refine wp_region_held (S := fun w' => w'.cell? (a.add (j * 3)) = some (.int .i64 p.1) ∧ w'.cell? a = some (.int .i64 p0.1)) (by kernel_rfl) ?_
      change wpAnyH _ _ _ _ _ _ _ _ wr.drew
      generalize wr.drew = D at *
      refine wpAnyH_take (i := 0) (oi := ⟨some _, _, _, _, _, _⟩) (v := ?_) rfl (by kernel_rfl) (by kernel_rfl) (by kernel_rfl) (fun _ _ _ h => h) (Or.inl ⟨by rfl, ?_⟩) HH.out ?_
      rotate_left
      · intro wS hSw
        try dsimp only at hSw
        go_simp
        all_goals (with_reducible rfl)
      simp only [Act.put, List.setIfInBounds_toArray, List.set_cons_zero, List.set_cons_succ]
      refine wpAnyH_take (i := 1) (oi := ⟨some _, _, _, _, _, _⟩) (v := ?_) rfl (by kernel_rfl) (by kernel_rfl) (by kernel_rfl) (fun _ _ _ h => h) (Or.inl ⟨by rfl, ?_⟩) HH.out ?_
      rotate_left
      · intro wS hSw
        try dsimp only at hSw
        go_simp
        all_goals (with_reducible rfl)
      simp only [Act.put, List.setIfInBounds_toArray, List.set_cons_zero, List.set_cons_succ]
      refine wpAnyH_take (i := 2) (oi := ⟨some _, _, _, _, _, _⟩) (v := ?_) rfl (by kernel_rfl) (by kernel_rfl) (by kernel_rfl) (fun _ _ _ h => h) (Or.inl ⟨by rfl, ?_⟩) HH.out ?_
      rotate_left
      · intro wS hSw
        try dsimp only at hSw
        go_simp
        all_goals (with_reducible rfl)
      simp only [Act.put, List.setIfInBounds_toArray, List.set_cons_zero, List.set_cons_succ]
      refine wpAnyH_take (i := 3) (oi := ⟨some _, _, _, _, _, _⟩) (v := ?_) rfl (by kernel_rfl) (by kernel_rfl) (by kernel_rfl) (fun _ _ _ h => h) (Or.inl ⟨by rfl, ?_⟩) HH.out ?_
      rotate_left
      · intro wS hSw
        try dsimp only at hSw
        go_simp
        all_goals (with_reducible rfl)
      simp only [Act.put, List.setIfInBounds_toArray, List.set_cons_zero, List.set_cons_succ]
      refine wpAnyH_take (i := 4) (oi := ⟨some _, _, _, _, _, _⟩) (v := ?_) rfl (by kernel_rfl) (by kernel_rfl) (by kernel_rfl) (fun _ _ _ h => h) (Or.inl ⟨by rfl, ?_⟩) HH.out ?_
      rotate_left
      · intro wS hSw
        try dsimp only at hSw
        go_simp
        all_goals (with_reducible rfl)
      simp only [Act.put, List.setIfInBounds_toArray, List.set_cons_zero, List.set_cons_succ]
      refine wpAnyH_take (i := 5) (oi := ⟨some _, _, _, _, _, _⟩) (v := ?_) rfl (by kernel_rfl) (by kernel_rfl) (by kernel_rfl) (fun _ _ _ h => h) (Or.inl ⟨by rfl, ?_⟩) HH.out ?_
      rotate_left
      · intro wS hSw
        try dsimp only at hSw
        go_simp
        all_goals (with_reducible rfl)
      simp only [Act.put, List.setIfInBounds_toArray, List.set_cons_zero, List.set_cons_succ]
      refine wpAnyH_take (i := 6) (oi := ⟨some _, _, _, _, _, _⟩) (v := ?_) rfl (by kernel_rfl) (by kernel_rfl) (by kernel_rfl) (fun _ _ _ h => h) (Or.inl ⟨by rfl, ?_⟩) HH.out ?_
      rotate_left
      · intro wS hSw
        try dsimp only at hSw
        go_simp
        all_goals (with_reducible rfl)
      simp only [Act.put, List.setIfInBounds_toArray, List.set_cons_zero, List.set_cons_succ]
      refine wpAnyH_take (i := 7) (oi := ⟨some _, _, _, _, _, _⟩) (v := ?_) rfl (by kernel_rfl) (by kernel_rfl) (by kernel_rfl) (fun _ _ _ h => h) (Or.inl ⟨by rfl, ?_⟩) HH.out ?_
      rotate_left
      · intro wS hSw
        try dsimp only at hSw
        go_simp
        all_goals (with_reducible rfl)
      simp only [Act.put, List.setIfInBounds_toArray, List.set_cons_zero, List.set_cons_succ]
      refine wpAnyH_take (i := 8) (oi := ⟨some _, _, _, _, _, _⟩) (v := ?_) rfl (by kernel_rfl) (by kernel_rfl) (by kernel_rfl) (fun _ _ _ h => h) (Or.inl ⟨by rfl, ?_⟩) HH.out ?_
      rotate_left
      · intro wS hSw
        try dsimp only at hSw
        go_simp
        all_goals (with_reducible rfl)
      simp only [Act.put, List.setIfInBounds_toArray, List.set_cons_zero, List.set_cons_succ]
      refine wpAnyH_take (i := 9) (oi := ⟨some _, _, _, _, _, _⟩) (v := ?_) rfl (by kernel_rfl) (by kernel_rfl) (by kernel_rfl) (fun _ _ _ h => h) (Or.inl ⟨by rfl, ?_⟩) HH.out ?_
      rotate_left
      · intro wS hSw
        try dsimp only at hSw
        go_simp
        all_goals (with_reducible rfl)
      simp only [Act.put, List.setIfInBounds_toArray, List.set_cons_zero, List.set_cons_succ]
      refine wpAnyH_done (by kernel_rfl) ?_ _
      have rA1 := rAD.alloc (.cells #[.slice ad3 n3 cap3] 27)
      have bX := below_box D (.cells #[.slice ad3 n3 cap3] 27)
      have zX : (D.alloc (.cells #[.slice ad3 n3 cap3] 27)).heap.size = D.heap.size + 1 := by simp
      have kA1 := Bx.new D [.slice ad3 n3 cap3] 27
      change Bx (D.alloc (.cells #[.slice ad3 n3 cap3] 27)) _ _ _ at kA1
      have u1 := kA1.cell (i := 0) rfl
      have e1 : (D.alloc (.cells #[.slice ad3 n3 cap3] 27)).cell? (a.add (j * 3)) = some (.int .i64 p.1) := (bX.cell (World.block_lt_of_cell? _ _ c0)).trans c0
      have e3 : (D.alloc (.cells #[.slice ad3 n3 cap3] 27)).cell? ⟨(a.add (j * 3)).block, (a.add (j * 3)).off + 2, none⟩ = some (.slice ad4 n4 cap4) := (bX.cell (World.block_lt_of_cell? _ _ c2)).trans c2
      have hbX := hbD.trans (bX.mono (by omega))
      clear HH c0 c2 d0 d1 bX kA1 hbD rAD
      have rBX := rBD.alloc (.cells #[.slice ad3 n3 cap3] 27)
      have kZX := kZD.alloc (.cells #[.slice ad3 n3 cap3] 27)
      clear rBD kZD
      go_wp2_with (first
        | (at_builtin
           refine wpList_snoc rA1 (u := .slice ad3 n3 cap3) u1 rfl Tryd.underlying24 info_heads rfl (by unfold maxLen; omega) (by omega) rfl _ _ rfl rfl rfl ?_
           intro g5 capC w5 o5 p5
           have z5 := p5.size
           obtain ⟨q5, eq5, -, l5⟩ := o5.lt.pos (Nat.succ_pos _)
           simp at eq5
           subst eq5
           have sp5 := Put.spot p5
           have rB5 := Put.row p5 rBX o3 (by omega)
           have k5 : Below (w.heap.size + 1) (D.alloc (.cells #[.slice ad3 n3 cap3] 27)) w5 := p5.below (by omega) (by omega)
           have e5 := (k5.cell (p := ⟨(a.add (j * 3)).block, (a.add (j * 3)).off + 2, none⟩) (Nat.lt_succ_of_lt hlb)).trans e3
           have kZ5 := kZX.below k5 (by omega)
           have hb5 := hbX.trans (k5.mono (by omega))
           have rB6 := rB5.alloc (.cells #[.slice ad4 n4 cap4] 27)
           have oA6 := o5.alloc (.cells #[.slice ad4 n4 cap4] 27)
           have bY := below_box w5 (.cells #[.slice ad4 n4 cap4] 27)
           have zY : (w5.alloc (.cells #[.slice ad4 n4 cap4] 27)).heap.size = w5.heap.size + 1 := by simp
           have kY := Bx.new w5 [.slice ad4 n4 cap4] 27
           change Bx (w5.alloc (.cells #[.slice ad4 n4 cap4] 27)) _ _ _ at kY
           have u6 := kY.cell (i := 0) rfl
           have kZ6 := kZ5.below bY (by omega)
           have hb6 := hb5.trans (bY.mono (by omega))
           clear rA1 rBX u1 kZX e3 e1 hbX rB5 o5 p5 kY kZ5 hb5 k5)
        | (at_builtin
           refine wpList_snoc rB6 (u := .slice ad4 n4 cap4) u6 rfl Tryd.underlying24 info_heads rfl (by unfold maxLen; omega) (by omega) rfl _ _ rfl rfl rfl ?_
           intro g6 capD w6 o6 p6))
      have z6 := p6.size
      have sp6 := Put.spot p6
      obtain ⟨q6, eq6, -, l6⟩ := o6.lt.pos (Nat.succ_pos _)
      simp at eq6
      subst eq6
      have oA7 := Put.row p6 oA6 (by omega) (by omega)
      have k7 : Below (w.heap.size + 1) (w5.alloc (.cells #[.slice ad4 n4 cap4] 27)) w6 := p6.below (by omega) (by omega)
      have kZ7 := kZ6.below k7 (by omega)
      have hb7 := hb6.trans (k7.mono (by omega))
      go_roundw
      case rel => exact ⟨j + 1, _, _, _, _, _, _, g5, g5 + 1, g6, g6 + 1, by omega, rfl, rfl, by go_num, oA7, o6, ⟨by omega, by omega, by omega, by omega, by omega⟩, hb7, by omega, kZ7, HC2, HA2, HB2⟩
      case measure => simp [intOf]; omega
    · obtain rfl : j = n := by omega
      have hfull : ps.take j = ps := List.take_of_length_le (by rw [hL.out]; exact Nat.le_refl _)
      have hHA := HA.out
      have hHB := HBs.out
      rw [hfull] at hHA hHB
      have HSA := Lib.hid (hHA.sls rA hbw)
      have HSB := Lib.hid (hHB.sls rB hbw)
      have HE := Lib.hid (mix_yes (ps := ps) (c := c) (by rw [hL.out]; exact HC.out))
      have HW1 := Lib.hid (show ∀ xs ∈ ps.map (·.2.1), xs.length ≤ 17592186044416 from fun xs hx => by
        obtain ⟨p, hp, rfl⟩ := List.mem_map.1 hx
        have := (HF.out p hp).1
        omega)
      have HW2 := Lib.hid (show ∀ xs ∈ ps.map (·.2.2), xs.length ≤ 17592186044416 from fun xs hx => by
        obtain ⟨p, hp, rfl⟩ := List.mem_map.1 hx
        have := (HF.out p hp).2
        omega)
      have H0 := Lib.hid (show j = 0 → (combine (ps.map (·.2.1)) c).length = 0 from fun h => by
        have : ps = [] := List.eq_nil_of_length_eq_zero (by rw [hL.out]; exact h)
        rw [this]; rfl)
      have HM := Lib.hid (fun h : 0 < j => pkts_at HS.out (j := 0) h)
      clear hfull hHA hHB HA HBs HC rA rB hj
      go_wp2_with fail
      go_at_call 59
      refine (CombW.spec_comb wr HSA.out (HT2.out.below hbw (.inr (Nat.le_refl _))) HW1.out).mono ?_
      obtain ⟨X, hX⟩ : ∃ X, combine (ps.map (·.2.1)) c = X := ⟨_, rfl⟩
      rw [hX] at HE H0 ⊢
      rintro e y1 ⟨ad5, n5, cap5, rfl, r5, b5⟩
      have z5 := b5.size
      have hSB1 := HSB.out.below b5 (.inl (Nat.le_refl _))
      have kZ1 := kZ.below b5 (by omega)
      have hb1 := hbw.trans (b5.mono (by omega))
      clear b5 HSA HSB kZ hbw hX
      go_wp2_with fail
      go_at_call 59
      refine (CombW.spec_comb y1 hSB1 (HT2.out.below hb1 (.inr (Nat.le_refl _))) HW2.out).mono ?_
      obtain ⟨Y, hY⟩ : ∃ Y, combine (ps.map (·.2.2)) c = Y := ⟨_, rfl⟩
      rw [hY] at HE ⊢
      rintro e y2 ⟨ad6, n6, cap6, rfl, r6, b6⟩
      have z6 := b6.size
      replace r5 := r5.below b6 (.inl (Nat.le_refl _))
      have kZ := kZ1.below b6 (by omega)
      have hb2 := hb1.trans (b6.mono (by omega))
      have l5 := r5.len
      have l6 := r6.len
      clear b6 kZ1 hb1 hSB1 hY
      by_cases h5 : n5 = 0
      · have HE2 := Lib.hid (show mixP ps c = (none3, false) by rw [HE.out, l5, decide_eq_true h5]; rfl)
        subst h5
        obtain ⟨k9, m9⟩ := zero_box kZ
        have z0 := kZ.cell (i := 0) rfl
        have z1 := kZ.cell (i := 1) rfl
        have z2 := kZ.cell (i := 2) rfl
        have f0 := kZ.free 0
        have f1 := kZ.free 1
        have f2' := kZ.free 2
        have g0 := k9.cell (i := 0) rfl
        have g1 := k9.cell (i := 1) rfl
        have g2 := k9.cell (i := 2) rfl
        have HBB := Lib.hid (hb2.trans (m9.below (by omega) (by omega)))
        clear kZ k9 m9 hb2 r5 r6
        go_wp2
        generalize ((y2.setCell ⟨w.heap.size, 0, none⟩ (.int .i64 0)).setCell ⟨w.heap.size, 1, none⟩ (.slice none 0 0)).setCell ⟨w.heap.size, 2, none⟩ (.slice none 0 0) = y9 at *
        refine bodyPost_ret (by simp [results, Tryd.results21, go_sem, g0, g1, g2]; rfl) rfl ?_
        rw [HR.out, HE2.out]
        exact ⟨_, rfl, pkt_none _ _ _ HBB.out.size, HBB.out⟩
      have hX1 := Lib.hid (decide_eq_false h5)
      have h5b : ((n5 : Int) == 0) = false := by simp; omega
      by_cases h6 : n6 = 0
      · have HE2 := Lib.hid (show mixP ps c = (none3, false) by rw [HE.out, l5, l6, decide_eq_true h6]; simp)
        subst h6
        obtain ⟨k9, m9⟩ := zero_box kZ
        have z0 := kZ.cell (i := 0) rfl
        have z1 := kZ.cell (i := 1) rfl
        have z2 := kZ.cell (i := 2) rfl
        have f0 := kZ.free 0
        have f1 := kZ.free 1
        have f2' := kZ.free 2
        have g0 := k9.cell (i := 0) rfl
        have g1 := k9.cell (i := 1) rfl
        have g2 := k9.cell (i := 2) rfl
        have HBB := Lib.hid (hb2.trans (m9.below (by omega) (by omega)))
        clear kZ k9 m9 hb2 r5 r6
        go_wp2
        generalize ((y2.setCell ⟨w.heap.size, 0, none⟩ (.int .i64 0)).setCell ⟨w.heap.size, 1, none⟩ (.slice none 0 0)).setCell ⟨w.heap.size, 2, none⟩ (.slice none 0 0) = y9 at *
        refine bodyPost_ret (by simp [results, Tryd.results21, go_sem, g0, g1, g2]; rfl) rfl ?_
        rw [HR.out, HE2.out]
        exact ⟨_, rfl, pkt_none _ _ _ HBB.out.size, HBB.out⟩
      have h6b : ((n6 : Int) == 0) = false := by simp; omega
      have h0j : 0 < j := by
        rcases Nat.eq_zero_or_pos j with h | h
        · exact absurd (l5.symm.trans (H0.out h)) h5
        · exact h
      obtain ⟨a, p, _, _, _, _, _, _, rfl, hp, c0, -, -, hx, -, -⟩ := HM.out h0j
      have hD : ps.getD 0 none3 = p := by rw [List.getD_eq_getElem?_getD, hp]; rfl
      have HE2 := Lib.hid (show mixP ps c = ((p.1, (X, Y)), true) by rw [HE.out, l5, l6, hX1.out, decide_eq_false h6, hD]; rfl)
      replace c0 := (hb2.cell (World.block_lt_of_cell? _ _ c0)).trans c0
      have c1 : y2.cell? a = some (.int .i64 p.1) := by rw [← c0, Nat.zero_mul]; unfold Addr.add; simp
      obtain ⟨k9, m9⟩ := put_box kZ (.int .i64 p.1) (.slice ad5 n5 cap5) (.slice ad6 n6 cap6)
      have z0 := kZ.cell (i := 0) rfl
      have z1 := kZ.cell (i := 1) rfl
      have z2 := kZ.cell (i := 2) rfl
      have f0 := kZ.free 0
      have f1 := kZ.free 1
      have f2' := kZ.free 2
      have g0 := k9.cell (i := 0) rfl
      have g1 := k9.cell (i := 1) rfl
      have g2 := k9.cell (i := 2) rfl
      have HBB := Lib.hid (And.intro (hb2.trans (m9.below (by omega) (by omega))) (And.intro (r5.mv m9 (by omega)) (r6.mv m9 (by omega))))
      have hsz9 : (((y2.setCell ⟨w.heap.size, 0, none⟩ (.int .i64 p.1)).setCell ⟨w.heap.size, 1, none⟩ (.slice ad5 n5 cap5)).setCell ⟨w.heap.size, 2, none⟩ (.slice ad6 n6 cap6)).heap.size = y2.heap.size := by simp [World.setCell]
      clear kZ k9 m9 hb2 r5 r6 hp hD h5 h6
      go_wp2
      generalize ((y2.setCell ⟨w.heap.size, 0, none⟩ (.int .i64 p.1)).setCell ⟨w.heap.size, 1, none⟩ (.slice ad5 n5 cap5)).setCell ⟨w.heap.size, 2, none⟩ (.slice ad6 n6 cap6) = y9 at *
      refine bodyPost_ret (by simp [results, Tryd.results21, go_sem, g0, g1, g2]; rfl) rfl ?_
      rw [HR.out, HE2.out]
      exact ⟨_, rfl, pkt_own hx HBB.out.2.1 HBB.out.2.2 (Nat.le_refl _) (by omega) (by omega) (by omega) (by omega), HBB.out.1⟩
end Go.Proofs.YtkhfkccbnhjmjaaDoor.PktW

