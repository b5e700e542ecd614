/- 'string(b)': bytes as a text. Texts as lists of bytes, for layers from 7 on: a text's bytes, cuts, sums, one byte as a text. Nothing is claimed here. -/
import Derived.Test.YtehpjidajmoggaaGreatDoorBytes
import Derived.Lib.BufferRead
import Derived.Test.YtehpjidajmoggaaGreatDoorUtfSpec
namespace Go.Proofs.YtehpjidajmoggaaGreatDoor.Byt
open Go.RowKit Kit

/-- The text of these bytes. -/
def textOf (l : List Nat) : ByteArray := ⟨(l.map UInt8.ofNat).toArray⟩
set_option maxRecDepth 100000 in
theorem convert_text {w : World} {a : Option Addr} {n c : Nat} {l : List Nat} (h : Bs w (.slice a n c) l) : (convert 101 9 (.slice a n c)).run Tryz.prog w = .ok (.string (textOf l)) w := by
  obtain ⟨hb, a', c', he, _, h⟩ := h
  injection he with e1 e2 e3
  subst e1; subst e2
  have hlen : (l.map UInt8.ofNat).length = l.length := by simp
  cases a with
  | none =>
    have hl : l = [] := by
      rcases h with h | ⟨_, _, ha, _⟩
      · exact h
      · cases ha
    subst hl
    exact Lib.run_convert_nil_bytes w 101 9 5 c Tryz.underlying101 Tryz.underlying5 Tryz.underlying9
  | some ad =>
    have := run_convert_bytes_back (P := Tryz.prog) w 101 9 5 ad c (l.map UInt8.ofNat) Tryz.underlying101 Tryz.underlying5 Tryz.underlying9 (fun j hj => by
      rw [hlen] at hj
      rcases h with h | ⟨g, off, ha, _, hx⟩
      · rw [h] at hj; simp at hj
      · injection ha with ha
        subst ha
        rw [Addr.add_lit, hx j l[j] (List.getElem?_eq_getElem hj)]
        have hlt := hb l[j] (List.getElem_mem hj)
        simp
        omega)
    rw [hlen] at this
    exact this
end Go.Proofs.YtehpjidajmoggaaGreatDoor.Byt
namespace Go.Proofs.YtehpjidajmoggaaGreatDoor.Txt
open Go.RowKit Kit Utf

/-- A text as a value. -/
def txt (l : List UInt8) : ByteArray := ⟨l.toArray⟩
theorem txt_size (l : List UInt8) : (txt l).size = l.length := by simp [txt, ByteArray.size]
theorem txt_data (s : ByteArray) : s = txt s.data.toList := by simp [txt]
theorem txt_list (l : List UInt8) : (txt l).data.toList = l := by simp [txt]
theorem nb_past {l : List UInt8} {i : Nat} (h : l.length ≤ i) : nb l i = 0 := by
  unfold nb
  rw [List.getD_eq_getElem?_getD, List.getElem?_eq_none h]
  rfl
theorem nb_get {l : List UInt8} {i : Nat} (h : i < l.length) : nb l i = (l[i]).toNat := by
  unfold nb
  rw [List.getD_eq_getElem?_getD, List.getElem?_eq_getElem h]
  rfl
theorem nb_ne {l : List UInt8} {i x : Nat} (h : nb l i = x) (h0 : x ≠ 0) : i < l.length := by
  by_cases hl : i < l.length
  · exact hl
  · rw [nb_past (by omega)] at h
    omega

/-- 's[i]'. -/
theorem idx {l : List UInt8} {i : Nat} (h : i < l.length) (wx : World) : (Instr.index 9 (.string (txt l)) (.int .i64 (i : Int))).run Tryz.prog wx = .ok (.int .u8 (nb l i : Int)) wx := by
  have hs := txt_size l
  rw [run_index_string wx 9 (txt l) .i64 i Tryz.underlying9, dif_pos ⟨by omega, by omega⟩]
  congr 3
  unfold nb
  rw [List.getD_eq_getElem?_getD, List.getElem?_eq_getElem h]
  rfl
theorem txt_extract (l : List UInt8) (i j : Nat) : (txt l).extract i j = txt ((l.drop i).take (j - i)) := by
  apply ByteArray.ext
  apply Array.ext'
  rw [ByteArray.data_extract, Array.toList_extract, List.extract_eq_take_drop]
  rfl
/-- 's[:k]', 's[k:]', 's[i:j]'. -/
theorem slH {l : List UInt8} {z : Int} {k : Nat} (hz : z = (k : Int)) (hk : k ≤ l.length) (wx : World) : (Instr.slice 9 (.string (txt l)) none (some (.int .i64 z)) none).run Tryz.prog wx = .ok (.string (txt (l.take k))) wx := by
  subst hz
  have hs := txt_size l
  rw [run_slice_string_h (P := Tryz.prog) wx 9 (txt l) Tryz.underlying9 .i64 k (by omega) (by omega), txt_extract]
  simp
theorem slL {l : List UInt8} {z : Int} {k : Nat} (hz : z = (k : Int)) (hk : k ≤ l.length) (wx : World) : (Instr.slice 9 (.string (txt l)) (some (.int .i64 z)) none none).run Tryz.prog wx = .ok (.string (txt (l.drop k))) wx := by
  subst hz
  have hs := txt_size l
  rw [run_slice_string_l (P := Tryz.prog) wx 9 (txt l) Tryz.underlying9 .i64 k (by omega) (by omega), txt_extract]
  rw [hs, Int.toNat_natCast, List.take_of_length_le (by rw [List.length_drop]; omega)]
theorem slM {l : List UInt8} {y z : Int} {i j : Nat} (hy : y = (i : Int)) (hz : z = (j : Int)) (hi : i ≤ j) (hj : j ≤ l.length) (wx : World) : (Instr.slice 9 (.string (txt l)) (some (.int .i64 y)) (some (.int .i64 z)) none).run Tryz.prog wx = .ok (.string (txt ((l.drop i).take (j - i)))) wx := by
  subst hy; subst hz
  have hs := txt_size l
  rw [run_slice_string (P := Tryz.prog) wx 9 (txt l) .i64 .i64 i j Tryz.underlying9 (by omega) (by omega) (by omega), txt_extract]
  simp

theorem add_txt (a b : List UInt8) : txt a ++ txt b = txt (a ++ b) := by
  apply ByteArray.ext
  simp [txt]
/-- '+' of two texts: its size is an int. -/
theorem add_fit {a b : List UInt8} (ha : a.length < 1000000000000) (hb : b.length < 1000000000000) : ¬ (9223372036854775807 < (txt a).size + (txt b).size) := by
  have h1 := txt_size a
  have h2 := txt_size b
  omega
/-- '+' of two texts, what it holds and that it fits, with the second one's bytes under a name of their own. -/
theorem add_lit {a b c : List UInt8} {s : ByteArray} (hs : s = txt b) (hc : a ++ b = c) (ha : a.length < 1000000000000) (hb : b.length < 1000000000000) : ¬ (9223372036854775807 < (txt a).size + s.size) ∧ txt a ++ s = txt c := by
  subst hs; subst hc
  exact ⟨add_fit ha hb, add_txt a b⟩
/-- .., the first one a literal. -/
theorem add_litL {a b c : List UInt8} {s : ByteArray} (hs : s = txt a) (hc : a ++ b = c) : s ++ txt b = txt c := by
  subst hs; subst hc
  exact add_txt a b
theorem txt_ne {a b : List UInt8} (h : a ≠ b) : ((txt a).toList == (txt b).toList) = false := by
  unfold txt
  rw [ByteArray.toList_mk, ByteArray.toList_mk]
  simpa using h

/-- One byte, as a text; behind a call that left it alone; behind a draw. -/
theorem one_text_after {W w1 : World} {x : Int} {g : Nat} (k : Below W.heap.size W w1) (h : W.heap[g]? = some (.cells #[.int .u8 x] 5 (0, 0))) (m : Nat) (hm : m < 256) (e : x = (m : Int)) :
    (convert 101 9 (.slice (some ⟨g, 0, none⟩) 1 1)).run Tryz.prog w1 = .ok (.string (txt [UInt8.ofNat m])) w1 := by
  subst e
  have hx : Byt.Bs W (.slice (some ⟨g, 0, none⟩) [m].length [m].length) [m] := Byt.bs_lit h rfl (by simpa using hm)
  exact Byt.convert_text (hx.below k)
theorem one_text (w : World) (x : Int) (m : Nat) (hm : m < 256) (e : x = (m : Int)) : (convert 101 9 (.slice (some ⟨w.heap.size, 0, none⟩) 1 1)).run Tryz.prog (w.alloc (.cells #[.int .u8 x] 5)) = .ok (.string (txt [UInt8.ofNat m])) (w.alloc (.cells #[.int .u8 x] 5)) :=
  one_text_after (Below.refl _ _) (World.alloc_heap_new w _) m hm e
theorem one_text_drew (w : World) (x : Int) (m : Nat) (hm : m < 256) (e : x = (m : Int)) : (convert 101 9 (.slice (some ⟨w.heap.size, 0, none⟩) 1 1)).run Tryz.prog (w.alloc (.cells #[.int .u8 x] 5)).drew = .ok (.string (txt [UInt8.ofNat m])) (w.alloc (.cells #[.int .u8 x] 5)).drew :=
  one_text_after (W := w.alloc (.cells #[.int .u8 x] 5)) (below_drewN (Below.refl _ _) 1) (World.alloc_heap_new w _) m hm e

/-- A block of three cells. -/
theorem three {W : World} {g : Nat} {a b c : Value} {t : TypeId} {fr : Nat × Nat} (h : W.heap[g]? = some (.cells #[a, b, c] t fr)) : W.cell? ⟨g, 0, none⟩ = some a ∧ W.cell? ⟨g, 1, none⟩ = some b ∧ W.cell? ⟨g, 2, none⟩ = some c :=
  ⟨cell_of h 0, cell_of h 1, cell_of h 2⟩
theorem below_set3 {w W : World} {g : Nat} (h : Below w.heap.size w W) (hg : w.heap.size ≤ g) (a b c : Value) : Below w.heap.size w (((W.setCell ⟨g, 0, none⟩ a).setCell ⟨g, 1, none⟩ b).setCell ⟨g, 2, none⟩ c) :=
  ((h.setCell (p := ⟨g, 0, none⟩) hg a).setCell (p := ⟨g, 1, none⟩) hg b).setCell (p := ⟨g, 2, none⟩) hg c
end Go.Proofs.YtehpjidajmoggaaGreatDoor.Txt
