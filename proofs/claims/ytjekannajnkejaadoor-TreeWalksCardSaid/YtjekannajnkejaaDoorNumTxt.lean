/- The contract of the document's own answer for layer 6 (package tabulariumref06): digit; texts as lists of bytes in layer 6's words. Nothing is claimed here. -/
import Derived.Test.YtjekannajnkejaaDoorNumPrint
import Derived.Test.YtjekannajnkejaaDoorKit
import Derived.Lib.Hide
import Derived.Deep.Cut
namespace Go.Proofs.YtjekannajnkejaaDoor.Num
open Go.RowKit Kit

/-- A text as a value. -/
def txt (l : List UInt8) : ByteArray := ⟨l.toArray⟩
theorem txt_size (l : List UInt8) : (txt l).size = l.length := by simp [txt, ByteArray.size]
theorem txt_data (s : ByteArray) : s = txt s.data.toList := by simp [txt]

/-- 's[i]'. -/
theorem idx {l : List UInt8} {i : Nat} (h : i < l.length) (wx : World) : (Instr.index 9 (.string (txt l)) (.int .i64 (i : Int))).run Tryd.prog wx = .ok (.int .u8 (nb l i : Int)) wx := by
  have hs := txt_size l
  rw [run_index_string wx 9 (txt l) .i64 i Tryd.underlying9, dif_pos ⟨by omega, by omega⟩]
  congr 3
  unfold nb
  rw [List.getD_eq_getElem?_getD, List.getElem?_eq_getElem h]
  rfl

set_option maxRecDepth 100000 in
theorem digit_any {w : World} {l : List UInt8} {i : Nat} (_hl : l.length < 1000000000) :
    Calls Tryd.prog 53 #[.string (txt l), .int .i64 i] w fun e w' => e = .returned (.bool (decide (DigAt l i))) ∧ w' = w := by
  have hs := txt_size l
  by_cases h : i < l.length
  · have h1 := idx h
    have hlt : (i : Int) < (l.length : Int) := by omega
    generalize hx : nb l i = x at *
    have hd : decide (DigAt l i) = decide (48 ≤ x ∧ x ≤ 57) := decide_eq_decide.2 (by unfold DigAt; rw [hx])
    rw [hd]
    generalize (txt l) = s at *
    clear hx hd
    by_cases c1 : 48 ≤ x
    · have c1' : decide ((48 : Int) ≤ (x : Int)) = true := by simp; omega
      by_cases c2 : x ≤ 57
      · have c2' : decide ((x : Int) ≤ 57) = true := by simp; omega
        go_enter Tryd.func53, Tryd.ntmps53
        go_wp2_with fail
        go_ret
        simp [c1, c2]
      · have c2' : decide ((x : Int) ≤ 57) = false := by simp; omega
        go_enter Tryd.func53, Tryd.ntmps53
        go_wp2_with fail
        go_ret
        simp [c1, c2]
    · have c1' : decide ((48 : Int) ≤ (x : Int)) = false := by simp; omega
      go_enter Tryd.func53, Tryd.ntmps53
      go_wp2_with fail
      go_ret
      simp [c1]
  · have hlt : decide ((i : Int) < (l.length : Int)) = false := by simp; omega
    have hd : decide (DigAt l i) = false := by simp; intro e; exact h (digAt_lt e)
    rw [hd]
    go_enter Tryd.func53, Tryd.ntmps53
    go_wp2_with fail
    go_ret
    simp
end Go.Proofs.YtjekannajnkejaaDoor.Num
