/- The contracts of package num as it landed, in the words that the laws' walks take. Nothing is claimed here. -/
import Derived.Test.YtkhdahfppajdoaaGreatDoorNumFnS
namespace Go.Proofs.YtkhdahfppajdoaaGreatDoor.Num
open Go.RowKit Kit

/-- What the tables hold. -/
def Ok (w : World) : Prop := Tab w ∧ Pow w
theorem Ok.below {w w' : World} (h : Ok w) (k : Below w.heap.size w w') : Ok w' := ⟨h.1.below k, h.2.below k⟩
theorem nparse_any {w : World} (ho : Ok w) {l : List UInt8} (hl : l.length < 100000) :
    Calls Tryz.prog 9 #[.string (txt l)] w fun e w' => e = .returned (parseV (parse l)) ∧ Below w.heap.size w w' := nparse_tab ho.1 hl
theorem nscan_any {w : World} (ho : Ok w) {l : List UInt8} (hl : l.length < 100000) :
    Calls Tryz.prog 16 #[.string (txt l)] w fun e w' => e = .returned (.int .i64 (scan l)) ∧ Below w.heap.size w w' := nscan_tab ho.1 hl
theorem nright_any {w : World} (_ho : Ok w) {n : Dec} (hl : n.dig.length < 100000) :
    Calls Tryz.prog 23 #[numV n] w fun e w' => e = .returned (.bool (decide (Right n))) ∧ Below w.heap.size w w' := nright_all (by omega)
theorem nprint_any {w : World} (ho : Ok w) {n : Dec} (hl : n.dig.length < 100000) :
    Calls Tryz.prog 10 #[numV n] w fun e w' => e = .returned (.string (txt (print n))) ∧ Below w.heap.size w w' := nprint_pow ho.2 hl
end Go.Proofs.YtkhdahfppajdoaaGreatDoor.Num
