/- A part of what is_holds leans on (its texts, put together). Nothing is claimed here. -/
import Derived.Test.YtlfbnfphocpgeaaGreatDoorIs16
namespace Go.Proofs.YtlfbnfphocpgeaaGreatDoor.Jdec
open Go.RowKit Kit Txt
open Utf (nb)
def badV (at' e : Int) : Value := .agg #[.int .i64 0, .bool false, .bool false, .string ⟨#[]⟩, .int .i64 0, .string ⟨#[]⟩, .slice none 0 0, .slice none 0 0, .int .i64 0, .int .i64 at', .int .i64 e]
set_option maxRecDepth 100000 in
set_option maxHeartbeats 8000000 in
theorem rbad_any {w : World} {p e : Int} : Calls Tryz.prog 24 #[.int .i64 p, .int .i64 e] w fun r w' => r = .returned (badV p e) ∧ Below w.heap.size w w' := by
 go_enter Tryz.func24, Tryz.ntmps24
 go_wp2_with fail
 refine bodyPost_ret (v := badV p e) (by simp [results, Tryz.results24, go_sem, badV]) rfl ⟨rfl, (Below.refl _ w).alloc (Nat.le_refl _) _⟩
theorem eleven {W : World} {g : Nat} {c0 c1 c2 c3 c4 c5 c6 c7 c8 c9 c10 : Value} {t : TypeId} {fr : Nat × Nat} (h : W.heap[g]? = some (.cells #[c0, c1, c2, c3, c4, c5, c6, c7, c8, c9, c10] t fr)) :
   W.cell? ⟨g, 0, none⟩ = some c0 ∧ W.cell? ⟨g, 1, none⟩ = some c1 ∧ W.cell? ⟨g, 2, none⟩ = some c2 ∧ W.cell? ⟨g, 3, none⟩ = some c3 ∧ W.cell? ⟨g, 4, none⟩ = some c4 ∧ W.cell? ⟨g, 5, none⟩ = some c5 ∧
   W.cell? ⟨g, 6, none⟩ = some c6 ∧ W.cell? ⟨g, 7, none⟩ = some c7 ∧ W.cell? ⟨g, 8, none⟩ = some c8 ∧ W.cell? ⟨g, 9, none⟩ = some c9 ∧ W.cell? ⟨g, 10, none⟩ = some c10 := by
 simp [World.cell?, h]
theorem set11 {W : World} {g : Nat} {c0 c1 c2 c3 c4 c5 c6 c7 c8 c9 c10 : Value} {t : TypeId} {fr : Nat × Nat} (h : W.heap[g]? = some (.cells #[c0, c1, c2, c3, c4, c5, c6, c7, c8, c9, c10] t fr)) (v0 v1 v2 v3 v4 v5 v6 v7 v8 v9 v10 : Value) :
   (((((((((((W.setCell ⟨g, 0, none⟩ v0).setCell ⟨g, 1, none⟩ v1).setCell ⟨g, 2, none⟩ v2).setCell ⟨g, 3, none⟩ v3).setCell ⟨g, 4, none⟩ v4).setCell ⟨g, 5, none⟩ v5).setCell ⟨g, 6, none⟩ v6).setCell ⟨g, 7, none⟩ v7).setCell ⟨g, 8, none⟩ v8).setCell ⟨g, 9, none⟩ v9).setCell ⟨g, 10, none⟩ v10).heap[g]? = some (.cells #[v0, v1, v2, v3, v4, v5, v6, v7, v8, v9, v10] t fr) := by
 simpa using (set_of (set_of (set_of (set_of (set_of (set_of (set_of (set_of (set_of (set_of (set_of h 0 v0) 1 v1) 2 v2) 3 v3) 4 v4) 5 v5) 6 v6) 7 v7) 8 v8) 9 v9) 10 v10)
theorem below11 {w W : World} {g : Nat} (h : Below w.heap.size w W) (hg : w.heap.size ≤ g) (v0 v1 v2 v3 v4 v5 v6 v7 v8 v9 v10 : Value) : Below w.heap.size w (((((((((((W.setCell ⟨g, 0, none⟩ v0).setCell ⟨g, 1, none⟩ v1).setCell ⟨g, 2, none⟩ v2).setCell ⟨g, 3, none⟩ v3).setCell ⟨g, 4, none⟩ v4).setCell ⟨g, 5, none⟩ v5).setCell ⟨g, 6, none⟩ v6).setCell ⟨g, 7, none⟩ v7).setCell ⟨g, 8, none⟩ v8).setCell ⟨g, 9, none⟩ v9).setCell ⟨g, 10, none⟩ v10) := (((((((((((h.setCell (p := ⟨g, 0, none⟩) hg v0).setCell (p := ⟨g, 1, none⟩) hg v1).setCell (p := ⟨g, 2, none⟩) hg v2).setCell (p := ⟨g, 3, none⟩) hg v3).setCell (p := ⟨g, 4, none⟩) hg v4).setCell (p := ⟨g, 5, none⟩) hg v5).setCell (p := ⟨g, 6, none⟩) hg v6).setCell (p := ⟨g, 7, none⟩) hg v7).setCell (p := ⟨g, 8, none⟩) hg v8).setCell (p := ⟨g, 9, none⟩) hg v9).setCell (p := ⟨g, 10, none⟩) hg v10)
def hereE (l : List UInt8) (q : Nat) : Int := if l.length ≤ q then 2 else 3
set_option maxRecDepth 100000 in
set_option maxHeartbeats 8000000 in
theorem rhere_any {w : World} {l : List UInt8} {q : Nat} : Calls Tryz.prog 58 #[.string (txt l), .int .i64 q] w fun r w' => r = .returned (badV q (hereE l q)) ∧ Below w.heap.size w w' := by
 have hs := txt_size l
 have hA := World.alloc_heap_new w (.cells #[.int .i64 0, .bool false, .bool false, .string ⟨#[]⟩, .int .i64 0, .string ⟨#[]⟩, .slice none 0 0, .slice none 0 0, .int .i64 0, .int .i64 0, .int .i64 0] 31)
 have bA : Below w.heap.size w (w.alloc (.cells #[.int .i64 0, .bool false, .bool false, .string ⟨#[]⟩, .int .i64 0, .string ⟨#[]⟩, .slice none 0 0, .slice none 0 0, .int .i64 0, .int .i64 0, .int .i64 0] 31)) := (Below.refl _ w).alloc (Nat.le_refl _) _
 have hb := fun (wx : World) (x : Int) => rbad_any (w := wx) (p := q) (e := x)
 simp only [badV] at hb
 by_cases h : l.length ≤ q
 · have he : hereE l q = 2 := if_pos h
   have HC := Lib.hid he
   have h1 : (l.length : Int) ≤ (q : Int) := by omega
   have h2 : decide (l.length ≤ q) = true := decide_eq_true h
   clear he
   go_enter Tryz.func58, Tryz.ntmps58
   go_wp2_with fail
   refine (hb _ 2).mono ?_
   rintro e w2 ⟨rfl, k2⟩
   have hA2 := (k2.block _ (lt_of_heap hA)).trans hA
   have b2 := bA.trans (k2.mono bA.size)
   have h9 := set11 hA2 (.int .i64 0) (.bool false) (.bool false) (.string ⟨#[]⟩) (.int .i64 0) (.string ⟨#[]⟩) (.slice none 0 0) (.slice none 0 0) (.int .i64 0) (.int .i64 q) (.int .i64 2)
   have b9 := below11 b2 (Nat.le_refl _) (.int .i64 0) (.bool false) (.bool false) (.string ⟨#[]⟩) (.int .i64 0) (.string ⟨#[]⟩) (.slice none 0 0) (.slice none 0 0) (.int .i64 0) (.int .i64 q) (.int .i64 2)
   obtain ⟨d0, d1, d2, d3, d4, d5, d6, d7, d8, d9, d10⟩ := eleven h9
   obtain ⟨c0, c1, c2, c3, c4, c5, c6, c7, c8, c9, c10⟩ := eleven hA2
   have qf := free_of hA2
   clear h9 hA hA2
   go_wp2_with fail
   refine bodyPost_ret (v := badV q 2) (by simp [results, Tryz.results58, go_sem, badV, d0, d1, d2, d3, d4, d5, d6, d7, d8, d9, d10]) rfl ⟨by rw [HC.out], b9⟩
 · have he : hereE l q = 3 := if_neg h
   have HC := Lib.hid he
   have h1 : ¬ ((l.length : Int) ≤ (q : Int)) := by omega
   have h2 : decide (l.length ≤ q) = false := decide_eq_false h
   clear he
   go_enter Tryz.func58, Tryz.ntmps58
   go_wp2_with fail
   refine (hb _ 3).mono ?_
   rintro e w2 ⟨rfl, k2⟩
   have hA2 := (k2.block _ (lt_of_heap hA)).trans hA
   have b2 := bA.trans (k2.mono bA.size)
   have h9 := set11 hA2 (.int .i64 0) (.bool false) (.bool false) (.string ⟨#[]⟩) (.int .i64 0) (.string ⟨#[]⟩) (.slice none 0 0) (.slice none 0 0) (.int .i64 0) (.int .i64 q) (.int .i64 3)
   have b9 := below11 b2 (Nat.le_refl _) (.int .i64 0) (.bool false) (.bool false) (.string ⟨#[]⟩) (.int .i64 0) (.string ⟨#[]⟩) (.slice none 0 0) (.slice none 0 0) (.int .i64 0) (.int .i64 q) (.int .i64 3)
   obtain ⟨d0, d1, d2, d3, d4, d5, d6, d7, d8, d9, d10⟩ := eleven h9
   obtain ⟨c0, c1, c2, c3, c4, c5, c6, c7, c8, c9, c10⟩ := eleven hA2
   have qf := free_of hA2
   clear h9 hA hA2
   go_wp2_with fail
   refine bodyPost_ret (v := badV q 3) (by simp [results, Tryz.results58, go_sem, badV, d0, d1, d2, d3, d4, d5, d6, d7, d8, d9, d10]) rfl ⟨by rw [HC.out], b9⟩
end Go.Proofs.YtlfbnfphocpgeaaGreatDoor.Jdec
