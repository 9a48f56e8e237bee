/- DERIVED. The laws of layer 3 under the bounds that the rows hand over. -/
import Derived.Test.YtfchofdoabhakaaDoorPathLaws
import Derived.SizedLaws
namespace Go.Proofs.YtfchofdoabhakaaDoor
open Go.RowKit
open PathM

theorem pathjoins_row (d p : ByteArray) (w : World) (_ : d.size ≤ maxLen) (z0 : d.data.toList.length ≤ reachBytes) (_ : p.size ≤ maxLen) (z1 : p.data.toList.length ≤ reachBytes) :
    Calls Tryd.prog 5 #[.string d, .string p] w fun e w' => e = .returned (.bool true) ∧ Below w.heap.size w w' :=
  pathjoins_law d p w (by have := reachBytes_lt; rw [sizeD d, sizeD p]; unfold maxLen; omega)

theorem pathback_row (d n : ByteArray) (w : World) (hd : d.size ≤ maxLen) (_ : d.data.toList.length ≤ reachBytes) (_ : n.size ≤ maxLen) (z1 : n.data.toList.length ≤ reachBytes) :
    Calls Tryd.prog 8 #[.string d, .string n] w fun e w' => e = .returned (.bool true) ∧ Below w.heap.size w w' :=
  pathback_law d n w hd (by have := reachBytes_lt; rw [sizeD n]; omega)

theorem pathends_row (p : ByteArray) (w : World) (_ : p.size ≤ maxLen) (hb : p.data.toList.length + 1 + 0 ≤ 1048576) :
    Calls Tryd.prog 7 #[.string p] w fun e w' => e = .returned (.bool true) ∧ Below w.heap.size w w' :=
  pathends_law p w (by rw [sizeD p]; omega)

end Go.Proofs.YtfchofdoabhakaaDoor
