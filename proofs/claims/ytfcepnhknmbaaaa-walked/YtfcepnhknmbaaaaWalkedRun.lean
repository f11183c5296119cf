/- The law Walked, of all that it breaks. -/
import Derived.Test.YtfcepnhknmbaaaaWalked0
import Derived.Test.YtfcepnhknmbaaaaWalked1
import Derived.Test.YtfcepnhknmbaaaaWalked2
import Derived.Test.YtfcepnhknmbaaaaWalked3
import Derived.Test.YtfcepnhknmbaaaaWalked4
import Derived.Test.YtfcepnhknmbaaaaWalked5
import Derived.Test.YtfcepnhknmbaaaaWalked6
import Derived.Test.YtfcepnhknmbaaaaWalked7
import Derived.Test.YtfcepnhknmbaaaaWalked8
namespace Go.Proofs.Ytfcepnhknmbaaaa
open Go.RowKit Go.Deep

theorem walked_walk (a0 a1 a2 a3 a4 a5 : Int) (w : World) (h0 : In64 a0) (h1 : In64 a1) (h2 : In64 a2) (h3 : In64 a3) (h4 : In64 a4) (h5 : In64 a5) :
    Calls Try.prog 7 #[.int .i64 a0, .int .i64 a1, .int .i64 a2, .int .i64 a3, .int .i64 a4, .int .i64 a5] w fun e w' => e = .returned (.bool true) ∧ Below w.heap.size w w' := by
  have b5 := pickI_bd a5 9 (by omega)
  have h9 : pickI a5 9 = 0 ∨ pickI a5 9 = 1 ∨ pickI a5 9 = 2 ∨ pickI a5 9 = 3 ∨ pickI a5 9 = 4 ∨ pickI a5 9 = 5 ∨ pickI a5 9 = 6 ∨ pickI a5 9 = 7 ∨ pickI a5 9 = 8 := by omega
  rcases h9 with e | e | e | e | e | e | e | e | e
  · exact walked_0 a0 a1 a2 a3 a4 a5 w h0 h1 h2 h3 h4 h5 e
  · exact walked_1 a0 a1 a2 a3 a4 a5 w h0 h1 h2 h3 h4 h5 e
  · exact walked_2 a0 a1 a2 a3 a4 a5 w h0 h1 h2 h3 h4 h5 e
  · exact walked_3 a0 a1 a2 a3 a4 a5 w h0 h1 h2 h3 h4 h5 e
  · exact walked_4 a0 a1 a2 a3 a4 a5 w h0 h1 h2 h3 h4 h5 e
  · exact walked_5 a0 a1 a2 a3 a4 a5 w h0 h1 h2 h3 h4 h5 e
  · exact walked_6 a0 a1 a2 a3 a4 a5 w h0 h1 h2 h3 h4 h5 e
  · exact walked_7 a0 a1 a2 a3 a4 a5 w h0 h1 h2 h3 h4 h5 e
  · exact walked_8 a0 a1 a2 a3 a4 a5 w h0 h1 h2 h3 h4 h5 e
end Go.Proofs.Ytfcepnhknmbaaaa
