/-
  Combinations of vectors, of the model: what Combine answers.
-/
import Derived.Test.YthhnfbhpdcemfaaVecW
import Derived.Test.YthhnfbhpdcemfaaHelp2
import Derived.StillTailTactics
namespace Go.Proofs.Ythhnfbhpdcemfaa.CombW
open Go.ChangeShapes Go.WideShapes Go.ChangeAt Go.RowKit
open Go.Proofs.Ythhnfbhpdcemfaa.Seq Go.Proofs.Ythhnfbhpdcemfaa.Help Go.Proofs.Ythhnfbhpdcemfaa.Field Go.Proofs.Ythhnfbhpdcemfaa.FieldW Go.Proofs.Ythhnfbhpdcemfaa.Vec Go.Proofs.Ythhnfbhpdcemfaa.VecW

end Go.Proofs.Ythhnfbhpdcemfaa.CombW
