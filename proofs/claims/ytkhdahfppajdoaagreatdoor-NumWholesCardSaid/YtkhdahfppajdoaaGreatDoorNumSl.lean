/- Slices and sums of texts. Nothing is claimed here. -/
import Derived.Test.YtkhdahfppajdoaaGreatDoorNumAt
import Derived.Deep.QuietTactic
namespace Go.Proofs.YtkhdahfppajdoaaGreatDoor.Num
open Go.RowKit Kit

theorem txt_extract (l : List UInt8) (i j : Nat) : (txt l).extract i j = txt ((l.drop i).take (j - i)) := by
  apply ByteArray.ext
  apply Array.ext'
  rw [ByteArray.data_extract, Array.toList_extract, List.extract_eq_take_drop]
  rfl
/-- 's[:k]', 's[k:]', 's[i:j]'. -/
theorem slH {l : List UInt8} {z : Int} {k : Nat} (hz : z = (k : Int)) (hk : k ≤ l.length) (wx : World) : (Instr.slice 9 (.string (txt l)) none (some (.int .i64 z)) none).run Tryz.prog wx = .ok (.string (txt (l.take k))) wx := by
  subst hz
  have hs := txt_size l
  rw [run_slice_string_h (P := Tryz.prog) wx 9 (txt l) Tryz.underlying9 .i64 k (by omega) (by omega), txt_extract]
  simp
theorem slL {l : List UInt8} {z : Int} {k : Nat} (hz : z = (k : Int)) (hk : k ≤ l.length) (wx : World) : (Instr.slice 9 (.string (txt l)) (some (.int .i64 z)) none none).run Tryz.prog wx = .ok (.string (txt (l.drop k))) wx := by
  subst hz
  have hs := txt_size l
  rw [run_slice_string_l (P := Tryz.prog) wx 9 (txt l) Tryz.underlying9 .i64 k (by omega) (by omega), txt_extract]
  rw [hs, Int.toNat_natCast, List.take_of_length_le (by rw [List.length_drop]; omega)]
theorem slM {l : List UInt8} {y z : Int} {i j : Nat} (hy : y = (i : Int)) (hz : z = (j : Int)) (hi : i ≤ j) (hj : j ≤ l.length) (wx : World) : (Instr.slice 9 (.string (txt l)) (some (.int .i64 y)) (some (.int .i64 z)) none).run Tryz.prog wx = .ok (.string (txt ((l.drop i).take (j - i)))) wx := by
  subst hy; subst hz
  have hs := txt_size l
  rw [run_slice_string (P := Tryz.prog) wx 9 (txt l) .i64 .i64 i j Tryz.underlying9 (by omega) (by omega) (by omega), txt_extract]
  simp

/-- '+' of two texts, what it holds and that it fits, with the second one's bytes under a name of their own. -/
theorem add_lit {a b c : List UInt8} {s : ByteArray} (hs : s = txt b) (hc : a ++ b = c) (ha : a.length < 1000000000000) (hb : b.length < 1000000000000) : ¬ (9223372036854775807 < (txt a).size + s.size) ∧ txt a ++ s = txt c := by
  subst hs; subst hc
  exact ⟨add_fit ha hb, add_txt a b⟩

theorem negT_len (b : Bool) : (negT b).length ≤ 1 := by cases b <;> simp [negT]

end Go.Proofs.YtkhdahfppajdoaaGreatDoor.Num
