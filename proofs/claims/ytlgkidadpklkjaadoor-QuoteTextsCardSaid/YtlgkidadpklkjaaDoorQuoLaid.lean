/- What the laws' rows of layer 7 are given of the table utf.kinds. Nothing is claimed here. -/
import Derived.Test.YtlgkidadpklkjaaDoorUtfLaid
import Derived.Test.YtlgkidadpklkjaaDoorQuoFn
namespace Go.Proofs.YtlgkidadpklkjaaDoor.Quo
open Go.ChangeShapes Go.WideShapes Go.ChangeAt Go.RowKit Kit in
theorem laid_ok {W : World} (h : laidMetH Tryd.prog [("tabularium/utf.kinds", Rows.laid_tabularium_utf_kinds)] W) : Ok W := Utf.laid_of h
end Go.Proofs.YtlgkidadpklkjaaDoor.Quo
