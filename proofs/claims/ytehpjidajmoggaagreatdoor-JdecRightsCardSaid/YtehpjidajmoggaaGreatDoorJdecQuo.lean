/- The reader of package jdec as it landed: quoted. Nothing is claimed here. -/
import Derived.Test.YtehpjidajmoggaaGreatDoorJdecFlat
import Derived.Test.YtehpjidajmoggaaGreatDoorQuoScn
import Derived.Deep.RegionHeld3
namespace Go.Proofs.YtehpjidajmoggaaGreatDoor.Jdec
open Go.RowKit Kit Txt
open Utf (nb)
open Tre (Val HoldF zeroV)

theorem below_grown {w w' : World} {row : Option Nat} (h : Below w.heap.size w w') : w.grownBy w' row := grown_below (World.grownBy.refl w row) h
theorem below_step {w a b : World} (h : Below w.heap.size w a) (k : Below a.heap.size a b) : Below w.heap.size w b := h.trans (k.mono h.size)
theorem laid_below {w w' : World} (h : Utf.Laid w) (k : Below w.heap.size w w') : Utf.Laid w' := Utf.Laid.below h k (Utf.Laid.lt h)

set_option maxRecDepth 100000 in
set_option maxHeartbeats 8000000 in
theorem mquoted_any {w : World} {R : Nat} {s : List UInt8} {q : Nat} {o : Int} {u : Value} (hs : s.length < 100000) (hq : q ≤ s.length) (ht : Utf.Laid w) (h : Rdr R s q o u w) :
    Calls Tryz.prog 23 #[rp R] w (Told R s u o w (text (s.drop q))) := by
  have hz := txt_size s
  have hR := lt_of_heap h
  have hB := World.alloc_heap_new w (.cells #[.int .i64 0, .bool false, .bool false, .string ⟨#[]⟩, .int .i64 0, .string ⟨#[]⟩, .slice none 0 0, .slice none 0 0] 28)
  have bA : Below w.heap.size w (w.alloc (.cells #[.int .i64 0, .bool false, .bool false, .string ⟨#[]⟩, .int .i64 0, .string ⟨#[]⟩, .slice none 0 0, .slice none 0 0] 28)) := (Below.refl _ w).alloc (Nat.le_refl _) _
  obtain ⟨W, hW⟩ : ∃ W, w.alloc (.cells #[.int .i64 0, .bool false, .bool false, .string ⟨#[]⟩, .int .i64 0, .string ⟨#[]⟩, .slice none 0 0, .slice none 0 0] 28) = W := ⟨_, rfl⟩
  rw [hW] at hB bA
  have hA := h.below bA
  have hRW := lt_of_heap hA
  obtain ⟨c0, c1, c2, c3⟩ := four hA
  have hsl := slL (l := s) (z := (q : Int)) rfl hq
  have hdl : (s.drop q).length < 100000 := by rw [List.length_drop]; omega
  have hdq := drop_at hq
  have hdz := List.length_drop (l := s) (i := q)
  have hsc := fun wx (hb : Below W.heap.size W wx) => Quo.qscan_laid (w := wx) hdl (laid_below ht (bA.trans (hb.mono bA.size)))
  have hnum : text (s.drop q) = text (s.drop q) := rfl
  conv at hnum => rhs; unfold text
  have hdd : (s.drop q).drop (Quo.scan (s.drop q)).size = s.drop (q + (Quo.scan (s.drop q)).size) := by rw [List.drop_drop]
  rw [hdd] at hnum
  have hok := fun (h : (Quo.scan (s.drop q)).e = 0) => (scan_ok h).2.2
  generalize hl : s.drop q = l at *
  generalize Quo.scan l = p at *
  obtain ⟨st, n, ee⟩ := p
  dsimp only at *
  generalize hgn : text l = g at *
  have bq0 := drew_below W
  have HW := Lib.hid hW
  unfold rp
  by_cases h0 : ee = 0
  · subst h0
    rw [if_neg (by simp)] at hnum
    have hnl := hok rfl
    have hqn : q + n ≤ s.length := by omega
    have hwq : IntKind.i64.wrap ((q : Int) + (n : Int)) = (q : Int) + (n : Int) := by
      simp only [IntKind.wrap, IntKind.signed, IntKind.bits]; simp; omega
    have hdq2 := drop_at hqn
    have HN := Lib.hid hnum
    have HQ := Lib.hid hdq2
    have H := Lib.hid hA
    have HS := Lib.hid hsc
    clear hnum hdq hdq2 hok hdd hgn ht h hdz hl hA hsc hW hdl
    go_enter Tryz.func23, Tryz.ntmps23
    go_wp2_with fail
    rw [HW.out]
    go_region_held3 (fun wx => wx.cell? ⟨R, 0, none⟩ = some (.string (txt s)) ∧ wx.cell? ⟨R, 1, none⟩ = some (.int .i64 q))
      (first | assumption | go_keep)
      (first | (go_at_call 39; refine (HS.out _ (by assumption)).mono ?_; rintro e wx ⟨rfl, kx⟩; have bq := below_step (w := W) (by assumption) kx; have m0 := (bq.cell (p := ⟨R, 0, none⟩) hRW).trans c0; have m1 := (bq.cell (p := ⟨R, 1, none⟩) hRW).trans c1))
    have b2 := bA.trans (bq.mono bA.size)
    have hB2 := (bq.block _ (lt_of_heap hB)).trans hB
    have H2 := H.out.below bq
    clear c0 c1 c2 c3 m0 m1
    obtain ⟨c0, c1, c2, c3⟩ := four H2
    have hf := free_of H2 1
    have hlt2 := lt_of_heap hB2
    have hR2 := lt_of_heap H2
    have hne : ¬ w.heap.size = R := by omega
    obtain ⟨e0, e1, e2, e3, e4, e5, e6, e7⟩ := eight hB2
    obtain ⟨f0, f1, f2, f3, f4, f5, f6, f7⟩ := free8 hB2
    have r1 : Rdr R s (q + n) o u (wx.setCell ⟨R, 1, none⟩ (.int .i64 ((q : Int) + (n : Int)))) := H2.goes (q + n)
    have k3 := grown_cell wx R 1 (.int .i64 ((q : Int) + (n : Int)))
    have hB3 := kept_of hB2 k3 hne
    have hB4 := store8 hB3 (.int .i64 4) (.bool false) (.bool false) (.string ⟨#[]⟩) (.int .i64 0) (.string (txt st)) (.slice none 0 0) (.slice none 0 0)
    have k4 := grown8 (wx.setCell ⟨R, 1, none⟩ (.int .i64 ((q : Int) + (n : Int)))) w.heap.size (.int .i64 4) (.bool false) (.bool false) (.string ⟨#[]⟩) (.int .i64 0) (.string (txt st)) (.slice none 0 0) (.slice none 0 0)
    have g5 := grown_on (grown_trans (below_grown (row := some R) b2) k3) k4 (Nat.le_refl _)
    have r5 := r1.kept k4 (by simp; omega)
    have HB := Lib.hid hB4
    have HG := Lib.hid g5
    have HR := Lib.hid r5
    clear hB hB2 hB3 hB4 k3 k4 g5 r5 r1
    go_wp2_with fail
    obtain ⟨d0, d1, d2, d3, d4, d5, d6, d7⟩ := eight HB.out
    refine bodyPost_ret (v := .tuple #[.agg #[.int .i64 4, .bool false, .bool false, .string ⟨#[]⟩, .int .i64 0, .string (txt st), .slice none 0 0, .slice none 0 0], .int .i64 0]) (by simp [results, Tryz.results23, go_sem, d0, d1, d2, d3, d4, d5, d6, d7]) rfl ?_
    exact .ok HN.out HQ.out HG.out (flat_hold 4 false Num.zero st _ _) HR.out
  · rw [if_pos h0] at hnum
    have h0' : (((ee : Nat) : Int) != 0) = true := by simpa using h0
    have HN := Lib.hid hnum
    have HQ := Lib.hid hdq
    have H := Lib.hid hA
    have HS := Lib.hid hsc
    clear hnum hdq hok h0 hdd hgn ht h hdz hl hA hsc hW hdl
    go_enter Tryz.func23, Tryz.ntmps23
    go_wp2_with fail
    rw [HW.out]
    go_region_held3 (fun wx => wx.cell? ⟨R, 0, none⟩ = some (.string (txt s)) ∧ wx.cell? ⟨R, 1, none⟩ = some (.int .i64 q))
      (first | assumption | go_keep)
      (first | (go_at_call 39; refine (HS.out _ (by assumption)).mono ?_; rintro e wx ⟨rfl, kx⟩; have bq := below_step (w := W) (by assumption) kx; have m0 := (bq.cell (p := ⟨R, 0, none⟩) hRW).trans c0; have m1 := (bq.cell (p := ⟨R, 1, none⟩) hRW).trans c1))
    have b2 := bA.trans (bq.mono bA.size)
    have hB2 := (bq.block _ (lt_of_heap hB)).trans hB
    have H2 := H.out.below bq
    clear c0 c1 c2 c3 m0 m1
    obtain ⟨e0, e1, e2, e3, e4, e5, e6, e7⟩ := eight hB2
    obtain ⟨f0, f1, f2, f3, f4, f5, f6, f7⟩ := free8 hB2
    have hB4 := store8 hB2 (.int .i64 0) (.bool false) (.bool false) (.string ⟨#[]⟩) (.int .i64 0) (.string ⟨#[]⟩) (.slice none 0 0) (.slice none 0 0)
    have k4 := grown8 wx w.heap.size (.int .i64 0) (.bool false) (.bool false) (.string ⟨#[]⟩) (.int .i64 0) (.string ⟨#[]⟩) (.slice none 0 0) (.slice none 0 0)
    have g5 := grown_on (below_grown (row := some R) b2) k4 (Nat.le_refl _)
    have r5 := H2.kept k4 (by simp; omega)
    have HB := Lib.hid hB4
    have HG := Lib.hid g5
    have HR := Lib.hid r5
    clear hB hB2 hB4 k4 g5 r5 H2
    go_wp2_with fail
    obtain ⟨d0, d1, d2, d3, d4, d5, d6, d7⟩ := eight HB.out
    refine bodyPost_ret (v := .tuple #[zeroV, .int .i64 ee]) (by simp [results, Tryz.results23, go_sem, zeroV, d0, d1, d2, d3, d4, d5, d6, d7]) rfl ?_
    exact .no HN.out HQ.out HG.out HR.out
end Go.Proofs.YtehpjidajmoggaaGreatDoor.Jdec
