/- A part of what twice_holds leans on (its texts, put together). Nothing is claimed here. -/
import Derived.Test.YtlfbnfphocpgeaaGreatDoorTw21
namespace Go.Proofs.YtlfbnfphocpgeaaGreatDoor.Jdec
open Go.RowKit Kit Txt
open Utf (nb)
open Tre (Val HoldF zeroV)
theorem jscan_any {w : World} (ht : Num.Tab w) {l : List UInt8} (hl : l.length < 100000) : Calls Tryz.prog 66 #[.string (txt l)] w fun e w' => e = .returned (.int .i64 (Num.scan l)) ∧ Below w.heap.size w w' := Num.nscan_tab ht hl
theorem jparse_any {w : World} (ht : Num.Tab w) {l : List UInt8} (hl : l.length < 100000) : Calls Tryz.prog 67 #[.string (txt l)] w fun e w' => e = .returned (.tuple #[.agg #[.bool (Num.parse l).1.neg, .string (txt (Num.parse l).1.dig), .int .i64 (Num.parse l).1.exp], .int .i64 ((Num.parse l).2 : Int)]) ∧ Below w.heap.size w w' := Num.nparse_tab ht hl
set_option maxRecDepth 100000 in
set_option maxHeartbeats 8000000 in
theorem mnumber_any {w : World} {R : Nat} {s : List UInt8} {q : Nat} {o : Int} {u : Value} (hs : s.length < 100000) (hq : q ≤ s.length) (ht : Num.Tab w) (h : Rdr R s q o u w) :
    Calls Tryz.prog 43 #[rp R] w (Told R s u o w (number (s.drop q))) := by
  have hz := txt_size s
  have hR := lt_of_heap h
  obtain ⟨c0, c1, c2, c3⟩ := four h
  have hB := World.alloc_heap_new w (.cells #[.int .i64 0, .bool false, .bool false, .string ⟨#[]⟩, .int .i64 0, .string ⟨#[]⟩, .slice none 0 0, .slice none 0 0] 29)
  have bA : Below w.heap.size w (w.alloc (.cells #[.int .i64 0, .bool false, .bool false, .string ⟨#[]⟩, .int .i64 0, .string ⟨#[]⟩, .slice none 0 0, .slice none 0 0] 29)) := (Below.refl _ w).alloc (Nat.le_refl _) _
  have hsl := slL (l := s) (z := (q : Int)) rfl hq
  have hdl : (s.drop q).length < 100000 := by rw [List.length_drop]; omega
  have hdq := drop_at hq
  have hsc := fun wx (hb : Below w.heap.size w wx) => jscan_any (ht.below hb) hdl
  have hsn : Num.scan (s.drop q) ≤ (s.drop q).length := num_le _
  have hdz := List.length_drop (l := s) (i := q)
  have hnum : number (s.drop q) = number (s.drop q) := rfl
  conv at hnum => rhs; unfold number
  have hpa := fun wx (hb : Below w.heap.size w wx) => jparse_any (ht.below hb) (l := (s.drop q).take (Num.scan (s.drop q))) (by rw [List.length_take]; omega)
  have hdd : (s.drop q).drop (Num.scan (s.drop q)) = s.drop (q + Num.scan (s.drop q)) := by rw [List.drop_drop]
  rw [hdd] at hnum
  have htk := fun wx => slH (l := s.drop q) (z := ((Num.scan (s.drop q) : Nat) : Int)) rfl hsn wx
  have hzl := txt_size (s.drop q)
  generalize hl : s.drop q = l at *
  generalize Num.scan l = n at *
  generalize hgn : number l = g at *
  have hR8 := fun (B : Nat) (wx : World) (x : Num.Dec) => flat_hold 3 false x [] B wx
  unfold rp
  by_cases hn : n = 0
  · subst hn
    rw [if_pos rfl] at hnum
    by_cases h1 : l.length = 1
    · rw [if_pos h1] at hnum
      have h1' : ((l.length : Int) == 1) = true := by simp [h1]
      have HN := Lib.hid hnum
      have HQ := Lib.hid hdq
      have HS := Lib.hid hsc
      have H := Lib.hid h
      clear hnum hdq hsc hpa htk hdd hdl hsn h1 hl hgn ht h hR8 hdz
      go_enter Tryz.func43, Tryz.ntmps43
      go_wp2_with fail
      go_quiet (fail)
      have bq := below_drewN bA nq
      go_wp2_with fail
      refine (HS.out _ bq).mono ?_
      rintro e w1 ⟨rfl, k1⟩
      have b1 := bq.trans (k1.mono bq.size)
      have hB1 := (k1.block _ (by show w.heap.size < (w.alloc _).heap.size; simp)).trans hB
      have hB2 := store8 hB1 (.int .i64 0) (.bool false) (.bool false) (.string ⟨#[]⟩) (.int .i64 0) (.string ⟨#[]⟩) (.slice none 0 0) (.slice none 0 0)
      have k3 := grown8 w1 w.heap.size (.int .i64 0) (.bool false) (.bool false) (.string ⟨#[]⟩) (.int .i64 0) (.string ⟨#[]⟩) (.slice none 0 0) (.slice none 0 0)
      have g3 := grown_on (below_grown (row := some R) b1) k3 (Nat.le_refl _)
      have r3 := (H.out.below b1).kept k3 (by simp; omega)
      obtain ⟨e0, e1, e2, e3, e4, e5, e6, e7⟩ := eight hB1
      obtain ⟨f0, f1, f2, f3, f4, f5, f6, f7⟩ := free8 hB1
      have HB := Lib.hid hB2
      have HG := Lib.hid g3
      have HR := Lib.hid r3
      clear hB2 g3 r3 k3
      go_wp2_with fail
      obtain ⟨d0, d1, d2, d3, d4, d5, d6, d7⟩ := eight HB.out
      refine bodyPost_ret (v := .tuple #[zeroV, .int .i64 2]) (by simp [results, Tryz.results43, go_sem, zeroV, d0, d1, d2, d3, d4, d5, d6, d7]) rfl ?_
      exact .no (k := 2) HN.out HQ.out HG.out HR.out
    · rw [if_neg h1] at hnum
      have h1' : ((l.length : Int) == 1) = false := by simp; omega
      have HN := Lib.hid hnum
      have HQ := Lib.hid hdq
      have HS := Lib.hid hsc
      have H := Lib.hid h
      clear hnum hdq hsc hpa htk hdd hdl hsn h1 hl hgn ht h hR8 hdz
      go_enter Tryz.func43, Tryz.ntmps43
      go_wp2_with fail
      go_quiet (fail)
      have bq := below_drewN bA nq
      go_wp2_with fail
      refine (HS.out _ bq).mono ?_
      rintro e w1 ⟨rfl, k1⟩
      have b1 := bq.trans (k1.mono bq.size)
      have hB1 := (k1.block _ (by show w.heap.size < (w.alloc _).heap.size; simp)).trans hB
      have hB2 := store8 hB1 (.int .i64 0) (.bool false) (.bool false) (.string ⟨#[]⟩) (.int .i64 0) (.string ⟨#[]⟩) (.slice none 0 0) (.slice none 0 0)
      have k3 := grown8 w1 w.heap.size (.int .i64 0) (.bool false) (.bool false) (.string ⟨#[]⟩) (.int .i64 0) (.string ⟨#[]⟩) (.slice none 0 0) (.slice none 0 0)
      have g3 := grown_on (below_grown (row := some R) b1) k3 (Nat.le_refl _)
      have r3 := (H.out.below b1).kept k3 (by simp; omega)
      obtain ⟨e0, e1, e2, e3, e4, e5, e6, e7⟩ := eight hB1
      obtain ⟨f0, f1, f2, f3, f4, f5, f6, f7⟩ := free8 hB1
      have HB := Lib.hid hB2
      have HG := Lib.hid g3
      have HR := Lib.hid r3
      clear hB2 g3 r3 k3
      go_wp2_with fail
      obtain ⟨d0, d1, d2, d3, d4, d5, d6, d7⟩ := eight HB.out
      refine bodyPost_ret (v := .tuple #[zeroV, .int .i64 3]) (by simp [results, Tryz.results43, go_sem, zeroV, d0, d1, d2, d3, d4, d5, d6, d7]) rfl ?_
      exact .no (k := 3) HN.out HQ.out HG.out HR.out
  · rw [if_neg hn] at hnum
    have hn' : (((n : Nat) : Int) == 0) = false := by simpa using hn
    generalize hx : (Num.parse (l.take n)).1 = x at *
    generalize he : (Num.parse (l.take n)).2 = ee at *
    by_cases h0 : ee = 0
    · subst h0
      rw [if_neg (by simp)] at hnum
      have hwq : IntKind.i64.wrap ((q : Int) + (n : Int)) = (q : Int) + (n : Int) := by
        simp only [IntKind.wrap, IntKind.signed, IntKind.bits]; simp; omega
      have hqn : q + n ≤ s.length := by omega
      have hdq2 := drop_at hqn
      have HN := Lib.hid hnum
      have HQ := Lib.hid hdq2
      have HS := Lib.hid hsc
      have HP := Lib.hid hpa
      have H := Lib.hid h
      have HF := Lib.hid (fun B wx => hR8 B wx x)
      clear hnum hdq hdq2 hsc hpa hdd hdl hn hl hgn ht h hR8 hdz hx he
      go_enter Tryz.func43, Tryz.ntmps43
      go_wp2_with fail
      go_quiet (fail)
      have bq := below_drewN bA nq
      go_wp2_with fail
      refine (HS.out _ bq).mono ?_
      rintro e w1 ⟨rfl, k1⟩
      have b1 := bq.trans (k1.mono bq.size)
      have hB1 := (k1.block _ (by show w.heap.size < (w.alloc _).heap.size; simp)).trans hB
      go_wp2_with fail
      refine (HP.out _ b1).mono ?_
      rintro e w2 ⟨rfl, k2⟩
      have b2 := b1.trans (k2.mono b1.size)
      have hB2 := (k2.block _ (lt_of_heap hB1)).trans hB1
      have hlt2 := lt_of_heap hB2
      have hR2 : R < w2.heap.size := by omega
      have hne : ¬ w.heap.size = R := by omega
      obtain ⟨c0, c1, c2, c3⟩ := four (H.out.below b2)
      have hf := free_of (H.out.below b2) 1
      obtain ⟨e0, e1, e2, e3, e4, e5, e6, e7⟩ := eight hB2
      obtain ⟨f0, f1, f2, f3, f4, f5, f6, f7⟩ := free8 hB2
      have r1 : Rdr R s (q + n) o u (w2.setCell ⟨R, 1, none⟩ (.int .i64 ((q : Int) + (n : Int)))) := (H.out.below b2).goes (q + n)
      have k3 := grown_cell w2 R 1 (.int .i64 ((q : Int) + (n : Int)))
      have hB3 := kept_of hB2 k3 hne
      have hB4 := new_of (store8 hB3 (.int .i64 3) (.bool false) (.bool x.neg) (.string (txt x.dig)) (.int .i64 x.exp) (.string ⟨#[]⟩) (.slice none 0 0) (.slice none 0 0)) (.cells #[.bool x.neg, .string (txt x.dig), .int .i64 x.exp] 25)
      have k4 := grown8 (w2.setCell ⟨R, 1, none⟩ (.int .i64 ((q : Int) + (n : Int)))) w.heap.size (.int .i64 3) (.bool false) (.bool x.neg) (.string (txt x.dig)) (.int .i64 x.exp) (.string ⟨#[]⟩) (.slice none 0 0) (.slice none 0 0)
      have g5 := grown_alloc (grown_on (grown_trans (below_grown (row := some R) b2) k3) k4 (Nat.le_refl _)) (.cells #[.bool x.neg, .string (txt x.dig), .int .i64 x.exp] 25)
      have r5 := (r1.kept k4 (by simp; omega)).below ((Below.refl _ _).alloc (Nat.le_refl _) (.cells #[.bool x.neg, .string (txt x.dig), .int .i64 x.exp] 25))
      have HB := Lib.hid hB4
      have HG := Lib.hid g5
      have HR := Lib.hid r5
      clear hB1 hB hB2 hB3 hB4 k3 k4 g5 r5 r1
      go_wp2_with fail
      obtain ⟨d0, d1, d2, d3, d4, d5, d6, d7⟩ := eight HB.out
      refine bodyPost_ret (v := .tuple #[.agg #[.int .i64 3, .bool false, .bool x.neg, .string (txt x.dig), .int .i64 x.exp, .string ⟨#[]⟩, .slice none 0 0, .slice none 0 0], .int .i64 0]) (by simp [results, Tryz.results43, go_sem, d0, d1, d2, d3, d4, d5, d6, d7]) rfl ?_
      exact .ok HN.out HQ.out HG.out (HF.out _ _) HR.out
    · rw [if_pos h0] at hnum
      have h0' : (((ee : Nat) : Int) != 0) = true := by simpa using h0
      have HN := Lib.hid hnum
      have HQ := Lib.hid hdq
      have HS := Lib.hid hsc
      have HP := Lib.hid hpa
      have H := Lib.hid h
      clear hnum hdq hsc hpa hdd hdl hn hl hgn ht h hR8 hdz hx he
      go_enter Tryz.func43, Tryz.ntmps43
      go_wp2_with fail
      go_quiet (fail)
      have bq := below_drewN bA nq
      go_wp2_with fail
      refine (HS.out _ bq).mono ?_
      rintro e w1 ⟨rfl, k1⟩
      have b1 := bq.trans (k1.mono bq.size)
      have hB1 := (k1.block _ (by show w.heap.size < (w.alloc _).heap.size; simp)).trans hB
      go_wp2_with fail
      refine (HP.out _ b1).mono ?_
      rintro e w2 ⟨rfl, k2⟩
      have b2 := b1.trans (k2.mono b1.size)
      have hB2 := (k2.block _ (lt_of_heap hB1)).trans hB1
      have hlt2 := lt_of_heap hB2
      have hR2 : R < w2.heap.size := by omega
      have hne : ¬ w.heap.size = R := by omega
      obtain ⟨e0, e1, e2, e3, e4, e5, e6, e7⟩ := eight hB2
      obtain ⟨f0, f1, f2, f3, f4, f5, f6, f7⟩ := free8 hB2
      have hB4 := new_of (store8 hB2 (.int .i64 0) (.bool false) (.bool false) (.string ⟨#[]⟩) (.int .i64 0) (.string ⟨#[]⟩) (.slice none 0 0) (.slice none 0 0)) (.cells #[.bool x.neg, .string (txt x.dig), .int .i64 x.exp] 25)
      have k4 := grown8 w2 w.heap.size (.int .i64 0) (.bool false) (.bool false) (.string ⟨#[]⟩) (.int .i64 0) (.string ⟨#[]⟩) (.slice none 0 0) (.slice none 0 0)
      have g5 := grown_alloc (grown_on (below_grown (row := some R) b2) k4 (Nat.le_refl _)) (.cells #[.bool x.neg, .string (txt x.dig), .int .i64 x.exp] 25)
      have r5 := ((H.out.below b2).kept k4 (by simp; omega)).below ((Below.refl _ _).alloc (Nat.le_refl _) (.cells #[.bool x.neg, .string (txt x.dig), .int .i64 x.exp] 25))
      have HB := Lib.hid hB4
      have HG := Lib.hid g5
      have HR := Lib.hid r5
      clear hB1 hB hB2 hB4 k4 g5 r5
      go_wp2_with fail
      obtain ⟨d0, d1, d2, d3, d4, d5, d6, d7⟩ := eight HB.out
      refine bodyPost_ret (v := .tuple #[zeroV, .int .i64 ee]) (by simp [results, Tryz.results43, go_sem, zeroV, d0, d1, d2, d3, d4, d5, d6, d7]) rfl ?_
      exact .no HN.out HQ.out HG.out HR.out
end Go.Proofs.YtlfbnfphocpgeaaGreatDoor.Jdec
