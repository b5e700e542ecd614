/- The contract of the document's own answer for layer 6 (package tabulariumref06): digit; texts as lists of bytes in layer 6's words. The contracts of the document's own answer for layer 6 (package tabulariumref06): Right, Digits, noughts. Nothing is claimed here. -/
import Derived.Test.YtehpjidajmoggaaDoorNumPrint
import Derived.Test.YtehpjidajmoggaaDoorKit
import Derived.Lib.Hide
import Derived.Deep.Cut
import Derived.Test.YtehpjidajmoggaaDoorTexts
import Derived.Deep.RegionWith
import Derived.Deep.RegionHeld3
namespace Go.Proofs.YtehpjidajmoggaaDoor.Num
open Go.RowKit Kit

/-- A text as a value. -/
def txt (l : List UInt8) : ByteArray := ⟨l.toArray⟩
theorem txt_size (l : List UInt8) : (txt l).size = l.length := by simp [txt, ByteArray.size]
theorem txt_data (s : ByteArray) : s = txt s.data.toList := by simp [txt]

/-- 's[i]'. -/
theorem idx {l : List UInt8} {i : Nat} (h : i < l.length) (wx : World) : (Instr.index 9 (.string (txt l)) (.int .i64 (i : Int))).run Tryd.prog wx = .ok (.int .u8 (nb l i : Int)) wx := by
  have hs := txt_size l
  rw [run_index_string wx 9 (txt l) .i64 i Tryd.underlying9, dif_pos ⟨by omega, by omega⟩]
  congr 3
  unfold nb
  rw [List.getD_eq_getElem?_getD, List.getElem?_eq_getElem h]
  rfl

end Go.Proofs.YtehpjidajmoggaaDoor.Num
namespace Go.Proofs.YtehpjidajmoggaaDoor.Num
open Go.RowKit Kit

/-- A number as a value. -/
def numV (n : Dec) : Value := .agg #[.bool n.neg, .string (txt n.dig), .int .i64 n.exp]

/-- One byte, as a text. -/
theorem one_text (w : World) (x : Int) (m : Nat) (hm : m < 256) (e : x = (m : Int)) : (convert 22 9 (.slice (some ⟨w.heap.size, 0, none⟩) 1 1)).run Tryd.prog (w.alloc (.cells #[.int .u8 x] 5)) = .ok (.string (txt [UInt8.ofNat m])) (w.alloc (.cells #[.int .u8 x] 5)) := by
  subst e
  have hx : Byt.Bs (w.alloc (.cells #[.int .u8 (m : Int)] 5)) (.slice (some ⟨w.heap.size, 0, none⟩) [m].length [m].length) [m] := Byt.bs_lit (World.alloc_heap_new w _) rfl (by simpa using hm)
  exact Byt.convert_text hx
theorem add_txt (a b : List UInt8) : txt a ++ txt b = txt (a ++ b) := by
  apply ByteArray.ext
  simp [txt]
/-- '+' of two texts: its size is an int. -/
theorem add_fit {a b : List UInt8} (ha : a.length < 1000000000000) (hb : b.length < 1000000000000) : ¬ (9223372036854775807 < (txt a).size + (txt b).size) := by
  have h1 := txt_size a
  have h2 := txt_size b
  omega

/-- The same, behind a call that left it alone. -/
theorem one_text_after {W w1 : World} {x : Int} {g : Nat} (k : Below W.heap.size W w1) (h : W.heap[g]? = some (.cells #[.int .u8 x] 5 (0, 0))) (m : Nat) (hm : m < 256) (e : x = (m : Int)) :
    (convert 22 9 (.slice (some ⟨g, 0, none⟩) 1 1)).run Tryd.prog w1 = .ok (.string (txt [UInt8.ofNat m])) w1 := by
  subst e
  have hx : Byt.Bs W (.slice (some ⟨g, 0, none⟩) [m].length [m].length) [m] := Byt.bs_lit h rfl (by simpa using hm)
  exact Byt.convert_text (hx.below k)

theorem one_text_drew (w : World) (x : Int) (m : Nat) (hm : m < 256) (e : x = (m : Int)) : (convert 22 9 (.slice (some ⟨w.heap.size, 0, none⟩) 1 1)).run Tryd.prog (w.alloc (.cells #[.int .u8 x] 5)).drew = .ok (.string (txt [UInt8.ofNat m])) (w.alloc (.cells #[.int .u8 x] 5)).drew :=
  one_text_after (W := w.alloc (.cells #[.int .u8 x] 5)) (below_drewN (Below.refl _ _) 1) (World.alloc_heap_new w _) m hm e

end Go.Proofs.YtehpjidajmoggaaDoor.Num
