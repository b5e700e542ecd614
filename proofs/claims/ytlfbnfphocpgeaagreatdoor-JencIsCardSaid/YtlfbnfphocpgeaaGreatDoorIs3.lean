/- A part of what is_holds leans on (its texts, put together). Nothing is claimed here. -/
import Derived.Lib.BufferRead
import Derived.Lib.Hide
import Derived.Test.YtlfbnfphocpgeaaGreatDoorIs2
namespace Go.Proofs.YtlfbnfphocpgeaaGreatDoor.Byt
open Go.RowKit Kit
def textOf (l : List Nat) : ByteArray := ⟨(l.map UInt8.ofNat).toArray⟩
set_option maxRecDepth 100000 in
theorem convert_text {w : World} {a : Option Addr} {n c : Nat} {l : List Nat} (h : Bs w (.slice a n c) l) : (convert 60 9 (.slice a n c)).run Tryz.prog w = .ok (.string (textOf l)) w := by
 obtain ⟨hb, a', c', he, _, h⟩ := h
 injection he with e1 e2 e3
 subst e1; subst e2
 have hlen : (l.map UInt8.ofNat).length = l.length := by simp
 cases a with
 | none =>
   have hl : l = [] := by
     rcases h with h | ⟨_, _, ha, _⟩
     · exact h
     · cases ha
   subst hl
   exact Lib.run_convert_nil_bytes w 60 9 5 c Tryz.underlying60 Tryz.underlying5 Tryz.underlying9
 | some ad =>
   have := run_convert_bytes_back (P := Tryz.prog) w 60 9 5 ad c (l.map UInt8.ofNat) Tryz.underlying60 Tryz.underlying5 Tryz.underlying9 (fun j hj => by
     rw [hlen] at hj
     rcases h with h | ⟨g, off, ha, _, hx⟩
     · rw [h] at hj; simp at hj
     · injection ha with ha
       subst ha
       rw [Addr.add_lit, hx j l[j] (List.getElem?_eq_getElem hj)]
       have hlt := hb l[j] (List.getElem_mem hj)
       simp
       omega)
   rw [hlen] at this
   exact this
end Go.Proofs.YtlfbnfphocpgeaaGreatDoor.Byt
namespace Go.Proofs.YtlfbnfphocpgeaaGreatDoor.Txt
open Go.RowKit Kit Utf
def txt (l : List UInt8) : ByteArray := ⟨l.toArray⟩
theorem txt_size (l : List UInt8) : (txt l).size = l.length := by simp [txt, ByteArray.size]
theorem txt_data (s : ByteArray) : s = txt s.data.toList := by simp [txt]
theorem txt_list (l : List UInt8) : (txt l).data.toList = l := by simp [txt]
theorem nb_past {l : List UInt8} {i : Nat} (h : l.length ≤ i) : nb l i = 0 := by
 unfold nb
 rw [List.getD_eq_getElem?_getD, List.getElem?_eq_none h]
 rfl
theorem nb_get {l : List UInt8} {i : Nat} (h : i < l.length) : nb l i = (l[i]).toNat := by
 unfold nb
 rw [List.getD_eq_getElem?_getD, List.getElem?_eq_getElem h]
 rfl
theorem nb_ne {l : List UInt8} {i x : Nat} (h : nb l i = x) (h0 : x ≠ 0) : i < l.length := by
 by_cases hl : i < l.length
 · exact hl
 · rw [nb_past (by omega)] at h
   omega
theorem idx {l : List UInt8} {i : Nat} (h : i < l.length) (wx : World) : (Instr.index 9 (.string (txt l)) (.int .i64 (i : Int))).run Tryz.prog wx = .ok (.int .u8 (nb l i : Int)) wx := by
 have hs := txt_size l
 rw [run_index_string wx 9 (txt l) .i64 i Tryz.underlying9, dif_pos ⟨by omega, by omega⟩]
 congr 3
 unfold nb
 rw [List.getD_eq_getElem?_getD, List.getElem?_eq_getElem h]
 rfl
theorem txt_extract (l : List UInt8) (i j : Nat) : (txt l).extract i j = txt ((l.drop i).take (j - i)) := by
 apply ByteArray.ext
 apply Array.ext'
 rw [ByteArray.data_extract, Array.toList_extract, List.extract_eq_take_drop]
 rfl
theorem slH {l : List UInt8} {z : Int} {k : Nat} (hz : z = (k : Int)) (hk : k ≤ l.length) (wx : World) : (Instr.slice 9 (.string (txt l)) none (some (.int .i64 z)) none).run Tryz.prog wx = .ok (.string (txt (l.take k))) wx := by
 subst hz
 have hs := txt_size l
 rw [run_slice_string_h (P := Tryz.prog) wx 9 (txt l) Tryz.underlying9 .i64 k (by omega) (by omega), txt_extract]
 simp
theorem slL {l : List UInt8} {z : Int} {k : Nat} (hz : z = (k : Int)) (hk : k ≤ l.length) (wx : World) : (Instr.slice 9 (.string (txt l)) (some (.int .i64 z)) none none).run Tryz.prog wx = .ok (.string (txt (l.drop k))) wx := by
 subst hz
 have hs := txt_size l
 rw [run_slice_string_l (P := Tryz.prog) wx 9 (txt l) Tryz.underlying9 .i64 k (by omega) (by omega), txt_extract]
 rw [hs, Int.toNat_natCast, List.take_of_length_le (by rw [List.length_drop]; omega)]
theorem slM {l : List UInt8} {y z : Int} {i j : Nat} (hy : y = (i : Int)) (hz : z = (j : Int)) (hi : i ≤ j) (hj : j ≤ l.length) (wx : World) : (Instr.slice 9 (.string (txt l)) (some (.int .i64 y)) (some (.int .i64 z)) none).run Tryz.prog wx = .ok (.string (txt ((l.drop i).take (j - i)))) wx := by
 subst hy; subst hz
 have hs := txt_size l
 rw [run_slice_string (P := Tryz.prog) wx 9 (txt l) .i64 .i64 i j Tryz.underlying9 (by omega) (by omega) (by omega), txt_extract]
 simp
theorem add_txt (a b : List UInt8) : txt a ++ txt b = txt (a ++ b) := by
 apply ByteArray.ext
 simp [txt]
theorem add_fit {a b : List UInt8} (ha : a.length < 1000000000000) (hb : b.length < 1000000000000) : ¬ (9223372036854775807 < (txt a).size + (txt b).size) := by
 have h1 := txt_size a
 have h2 := txt_size b
 omega
theorem add_lit {a b c : List UInt8} {s : ByteArray} (hs : s = txt b) (hc : a ++ b = c) (ha : a.length < 1000000000000) (hb : b.length < 1000000000000) : ¬ (9223372036854775807 < (txt a).size + s.size) ∧ txt a ++ s = txt c := by
 subst hs; subst hc
 exact ⟨add_fit ha hb, add_txt a b⟩
theorem txt_ne {a b : List UInt8} (h : a ≠ b) : ((txt a).toList == (txt b).toList) = false := by
 unfold txt
 rw [ByteArray.toList_mk, ByteArray.toList_mk]
 simpa using h
theorem one_text_after {W w1 : World} {x : Int} {g : Nat} (k : Below W.heap.size W w1) (h : W.heap[g]? = some (.cells #[.int .u8 x] 5 (0, 0))) (m : Nat) (hm : m < 256) (e : x = (m : Int)) :
   (convert 60 9 (.slice (some ⟨g, 0, none⟩) 1 1)).run Tryz.prog w1 = .ok (.string (txt [UInt8.ofNat m])) w1 := by
 subst e
 have hx : Byt.Bs W (.slice (some ⟨g, 0, none⟩) [m].length [m].length) [m] := Byt.bs_lit h rfl (by simpa using hm)
 exact Byt.convert_text (hx.below k)
theorem one_text (w : World) (x : Int) (m : Nat) (hm : m < 256) (e : x = (m : Int)) : (convert 60 9 (.slice (some ⟨w.heap.size, 0, none⟩) 1 1)).run Tryz.prog (w.alloc (.cells #[.int .u8 x] 5)) = .ok (.string (txt [UInt8.ofNat m])) (w.alloc (.cells #[.int .u8 x] 5)) :=
 one_text_after (Below.refl _ _) (World.alloc_heap_new w _) m hm e
theorem three {W : World} {g : Nat} {a b c : Value} {t : TypeId} {fr : Nat × Nat} (h : W.heap[g]? = some (.cells #[a, b, c] t fr)) : W.cell? ⟨g, 0, none⟩ = some a ∧ W.cell? ⟨g, 1, none⟩ = some b ∧ W.cell? ⟨g, 2, none⟩ = some c :=
 ⟨cell_of h 0, cell_of h 1, cell_of h 2⟩
theorem below_set3 {w W : World} {g : Nat} (h : Below w.heap.size w W) (hg : w.heap.size ≤ g) (a b c : Value) : Below w.heap.size w (((W.setCell ⟨g, 0, none⟩ a).setCell ⟨g, 1, none⟩ b).setCell ⟨g, 2, none⟩ c) :=
 ((h.setCell (p := ⟨g, 0, none⟩) hg a).setCell (p := ⟨g, 1, none⟩) hg b).setCell (p := ⟨g, 2, none⟩) hg c
end Go.Proofs.YtlfbnfphocpgeaaGreatDoor.Txt
namespace Go.Proofs.YtlfbnfphocpgeaaGreatDoor.Tre
open Go.RowKit Kit Txt
open Num (Dec zero)
def Ks (w : World) (u : Value) (ls : List (List UInt8)) : Prop :=
 ∃ a c, u = .slice a ls.length c ∧ ls.length ≤ c ∧ c ≤ 9223372036854775807 ∧ (ls = [] ∨ ∃ g off, a = some ⟨g, off, none⟩ ∧ g < w.heap.size ∧ ∀ (i : Nat) (l : List UInt8), ls[i]? = some l → w.cell? ⟨g, off + i, none⟩ = some (.string (txt l)))
theorem Ks.below {w w' : World} {u : Value} {ls : List (List UInt8)} (h : Ks w u ls) (b : Below w.heap.size w w') : Ks w' u ls := by
 obtain ⟨a, c, rfl, hc, hm, h⟩ := h
 refine ⟨a, c, rfl, hc, hm, ?_⟩
 rcases h with h | ⟨g, off, ha, hg, hx⟩
 · exact .inl h
 · exact .inr ⟨g, off, ha, Nat.lt_of_lt_of_le hg b.size, fun i l hi => (b.cell (p := ⟨g, off + i, none⟩) hg).trans (hx i l hi)⟩
def At8 (w : World) (g off : Nat) (cs : List Value) : Prop := cs.length = 8 ∧ ∀ j, j < 8 → w.cell? ⟨g, off + j, none⟩ = cs[j]?
theorem At8.below {w w' : World} {g off : Nat} {cs : List Value} (h : At8 w g off cs) (hg : g < w.heap.size) (b : Below w.heap.size w w') : At8 w' g off cs :=
 ⟨h.1, fun j hj => (b.cell (p := ⟨g, off + j, none⟩) hg).trans (h.2 j hj)⟩
def cellsV (k : Int) (i : Bool) (n : Dec) (s : List UInt8) (uk uv : Value) : List Value := [.int .i64 k, .bool i, .bool n.neg, .string (txt n.dig), .int .i64 n.exp, .string (txt s), uk, uv]
mutual
def Hold (w : World) (cs : List Value) : Val → Prop
 | ⟨k, i, n, s, ks, vs⟩ => ∃ uk a c, cs = cellsV k i n s uk (.slice a vs.length c) ∧ Ks w uk ks ∧ vs.length ≤ c ∧ c ≤ 9223372036854775807 ∧ (vs = [] ∨ ∃ g off, a = some ⟨g, off, none⟩ ∧ g < w.heap.size ∧ Holds w g off vs)
def Holds (w : World) (g off : Nat) : List Val → Prop
 | [] => True
 | v :: r => (∃ cs, At8 w g off cs ∧ Hold w cs v) ∧ Holds w g (off + 8) r
end
mutual
theorem Hold.below {w w' : World} (b : Below w.heap.size w w') : ∀ (v : Val) {cs : List Value}, Hold w cs v → Hold w' cs v
 | ⟨k, i, n, s, ks, vs⟩, cs, h => by
   rw [Hold] at h ⊢
   obtain ⟨uk, a, c, hcs, hk, hc, hm, h⟩ := h
   refine ⟨uk, a, c, hcs, hk.below b, hc, hm, ?_⟩
   rcases h with h | ⟨g, off, ha, hg, hx⟩
   · exact .inl h
   · exact .inr ⟨g, off, ha, Nat.lt_of_lt_of_le hg b.size, Holds.below b vs hg hx⟩
theorem Holds.below {w w' : World} (b : Below w.heap.size w w') : ∀ (vs : List Val) {g off : Nat}, g < w.heap.size → Holds w g off vs → Holds w' g off vs
 | [], _, _, _, _ => by rw [Holds]; trivial
 | v :: r, g, off, hg, h => by
   rw [Holds] at h ⊢
   obtain ⟨⟨cs, h8, hv⟩, hr⟩ := h
   exact ⟨⟨cs, h8.below hg b, Hold.below b v hv⟩, Holds.below b r hg hr⟩
end
theorem Holds.at {w : World} {g : Nat} : ∀ {vs : List Val} {off : Nat}, Holds w g off vs → ∀ {i : Nat} {v : Val}, vs[i]? = some v → ∃ cs, At8 w g (off + i * 8) cs ∧ Hold w cs v
 | [], _, _, _, _, hi => by simp at hi
 | x :: r, off, h, 0, v, hi => by
   rw [Holds] at h
   simp at hi
   subst hi
   simpa using h.1
 | x :: r, off, h, i + 1, v, hi => by
   rw [Holds] at h
   have := Holds.at h.2 (i := i) (v := v) (by simpa using hi)
   rwa [show off + (i + 1) * 8 = off + 8 + i * 8 by omega]
def HoldV (w : World) (u : Value) (v : Val) : Prop := ∃ cs : List Value, u = .agg cs.toArray ∧ Hold w cs v
theorem HoldV.below {w w' : World} {u : Value} {v : Val} (h : HoldV w u v) (b : Below w.heap.size w w') : HoldV w' u v := by
 obtain ⟨cs, hu, hc⟩ := h
 exact ⟨cs, hu, Hold.below b v hc⟩
theorem At8.cells {w : World} {g off : Nat} {k : Int} {i : Bool} {n : Dec} {s : List UInt8} {uk uv : Value} (h : At8 w g off (cellsV k i n s uk uv)) :
   w.cell? ⟨g, off, none⟩ = some (.int .i64 k) ∧ w.cell? ⟨g, off + 1, none⟩ = some (.bool i) ∧ w.cell? ⟨g, off + 2, none⟩ = some (.bool n.neg) ∧ w.cell? ⟨g, off + 3, none⟩ = some (.string (txt n.dig)) ∧
   w.cell? ⟨g, off + 4, none⟩ = some (.int .i64 n.exp) ∧ w.cell? ⟨g, off + 5, none⟩ = some (.string (txt s)) ∧ w.cell? ⟨g, off + 6, none⟩ = some uk ∧ w.cell? ⟨g, off + 7, none⟩ = some uv :=
 ⟨h.2 0 (by omega), h.2 1 (by omega), h.2 2 (by omega), h.2 3 (by omega), h.2 4 (by omega), h.2 5 (by omega), h.2 6 (by omega), h.2 7 (by omega)⟩
theorem eight {W : World} {g : Nat} {a b c d e f x y : Value} {t : TypeId} {fr : Nat × Nat} (h : W.heap[g]? = some (.cells #[a, b, c, d, e, f, x, y] t fr)) :
   W.cell? ⟨g, 0, none⟩ = some a ∧ W.cell? ⟨g, 1, none⟩ = some b ∧ W.cell? ⟨g, 2, none⟩ = some c ∧ W.cell? ⟨g, 3, none⟩ = some d ∧ W.cell? ⟨g, 4, none⟩ = some e ∧ W.cell? ⟨g, 5, none⟩ = some f ∧ W.cell? ⟨g, 6, none⟩ = some x ∧ W.cell? ⟨g, 7, none⟩ = some y :=
 ⟨cell_of h 0, cell_of h 1, cell_of h 2, cell_of h 3, cell_of h 4, cell_of h 5, cell_of h 6, cell_of h 7⟩
mutual
theorem ind1 {M : Val → Prop} (h : ∀ v : Val, (∀ x ∈ v.kids, M x) → M v) : ∀ v : Val, M v
 | ⟨k, i, n, s, ks, vs⟩ => h ⟨k, i, n, s, ks, vs⟩ (ind2 h vs)
theorem ind2 {M : Val → Prop} (h : ∀ v : Val, (∀ x ∈ v.kids, M x) → M v) : ∀ vs : List Val, ∀ x ∈ vs, M x
 | [], x, hx => absurd hx List.not_mem_nil
 | v :: r, x, hx => by
   rcases List.mem_cons.1 hx with e | hx
   · rw [e]
     exact ind1 h v
   · exact ind2 h r x hx
end
end Go.Proofs.YtlfbnfphocpgeaaGreatDoor.Tre
namespace Go.Proofs.YtlfbnfphocpgeaaGreatDoor.Tre
open Go.RowKit Kit Txt
open Num (Dec zero)
mutual
def Fine (d : Nat) : Val → Prop
 | ⟨_, _, n, s, ks, vs⟩ => d ≤ 70 ∧ s.length ≤ 2000 ∧ n.dig.length ≤ 1200 ∧ (∀ x ∈ ks, x.length ≤ 2000) ∧ Fines (d + 1) vs
def Fines (d : Nat) : List Val → Prop
 | [] => True
 | v :: r => Fine d v ∧ Fines d r
end
theorem fines_iff {d : Nat} {vs : List Val} : Fines d vs ↔ ∀ v ∈ vs, Fine d v := by
 induction vs with
 | nil => simp [Fines]
 | cons v r ih =>
   rw [Fines, ih]
   simp
mutual
def count : Val → Nat
 | ⟨_, _, _, _, ks, vs⟩ => 1 + ks.length + counts vs
def counts : List Val → Nat
 | [] => 0
 | v :: r => count v + counts r
end
theorem wrap_id {z : Int} (h1 : -9223372036854775808 ≤ z) (h2 : z ≤ 9223372036854775807) : IntKind.i64.wrap z = z := by
 simp only [IntKind.wrap, IntKind.signed, IntKind.bits]
 simp
 omega
end Go.Proofs.YtlfbnfphocpgeaaGreatDoor.Tre
namespace Go.Proofs.YtlfbnfphocpgeaaGreatDoor.Tre
open Go.RowKit Kit Txt
open Num (Dec zero)
end Go.Proofs.YtlfbnfphocpgeaaGreatDoor.Tre
