/- A part of what is_holds leans on (its texts, put together). Nothing is claimed here. -/
import Derived.Test.YtlfbnfphocpgeaaGreatDoorIs19
namespace Go.Proofs.YtlfbnfphocpgeaaGreatDoor.Jdec
open Go.RowKit Kit Txt
open Utf (nb)
open Tre (Val HoldF zeroV)
theorem below_grown {w w' : World} {row : Option Nat} (h : Below w.heap.size w w') : w.grownBy w' row := grown_below (World.grownBy.refl w row) h
theorem below_step {w a b : World} (h : Below w.heap.size w a) (k : Below a.heap.size a b) : Below w.heap.size w b := h.trans (k.mono h.size)
theorem laid_below {w w' : World} (h : Utf.Laid w) (k : Below w.heap.size w w') : Utf.Laid w' := Utf.Laid.below h k (Utf.Laid.lt h)
set_option maxRecDepth 100000 in
set_option maxHeartbeats 8000000 in
theorem mquoted_any {w : World} {R : Nat} {s : List UInt8} {q : Nat} {o : Int} {u : Value} (hs : s.length < 100000) (hq : q ≤ s.length) (ht : Utf.Laid w) (h : Rdr R s q o u w) :
   Calls Tryz.prog 42 #[rp R] w (Told R s u o w (text (s.drop q))) := by
 have hz := txt_size s
 have hR := lt_of_heap h
 have hB := World.alloc_heap_new w (.cells #[.int .i64 0, .bool false, .bool false, .string ⟨#[]⟩, .int .i64 0, .string ⟨#[]⟩, .slice none 0 0, .slice none 0 0] 29)
 have bA : Below w.heap.size w (w.alloc (.cells #[.int .i64 0, .bool false, .bool false, .string ⟨#[]⟩, .int .i64 0, .string ⟨#[]⟩, .slice none 0 0, .slice none 0 0] 29)) := (Below.refl _ w).alloc (Nat.le_refl _) _
 obtain ⟨W, hW⟩ : ∃ W, w.alloc (.cells #[.int .i64 0, .bool false, .bool false, .string ⟨#[]⟩, .int .i64 0, .string ⟨#[]⟩, .slice none 0 0, .slice none 0 0] 29) = W := ⟨_, rfl⟩
 rw [hW] at hB bA
 have hA := h.below bA
 have hRW := lt_of_heap hA
 obtain ⟨c0, c1, c2, c3⟩ := four hA
 have hsl := slL (l := s) (z := (q : Int)) rfl hq
 have hdl : (s.drop q).length < 100000 := by rw [List.length_drop]; omega
 have hdq := drop_at hq
 have hdz := List.length_drop (l := s) (i := q)
 have hsc := fun wx (hb : Below W.heap.size W wx) => Quo.qscan_laid (w := wx) hdl (laid_below ht (bA.trans (hb.mono bA.size)))
 have hnum : text (s.drop q) = text (s.drop q) := rfl
 conv at hnum => rhs; unfold text
 have hdd : (s.drop q).drop (Quo.scan (s.drop q)).size = s.drop (q + (Quo.scan (s.drop q)).size) := by rw [List.drop_drop]
 rw [hdd] at hnum
 have hok := fun (h : (Quo.scan (s.drop q)).e = 0) => (scan_ok h).2.2
 generalize hl : s.drop q = l at *
 generalize Quo.scan l = p at *
 obtain ⟨st, n, ee⟩ := p
 dsimp only at *
 generalize hgn : text l = g at *
 have bq0 := drew_below W
 have HW := Lib.hid hW
 unfold rp
 by_cases h0 : ee = 0
 · subst h0
   rw [if_neg (by simp)] at hnum
   have hnl := hok rfl
   have hqn : q + n ≤ s.length := by omega
   have hwq : IntKind.i64.wrap ((q : Int) + (n : Int)) = (q : Int) + (n : Int) := by
     simp only [IntKind.wrap, IntKind.signed, IntKind.bits]; simp; omega
   have hdq2 := drop_at hqn
   have HN := Lib.hid hnum
   have HQ := Lib.hid hdq2
   have H := Lib.hid hA
   have HS := Lib.hid hsc
   clear hnum hdq hdq2 hok hdd hgn ht h hdz hl hA hsc hW hdl
   go_enter Tryz.func42, Tryz.ntmps42
   go_wp2_with fail
   rw [HW.out]
   go_region_held3 (fun wx => wx.cell? ⟨R, 0, none⟩ = some (.string (txt s)) ∧ wx.cell? ⟨R, 1, none⟩ = some (.int .i64 q))
     (first | assumption | go_keep)
     (first | (go_at_call 65; refine (HS.out _ (by assumption)).mono ?_; rintro e wx ⟨rfl, kx⟩; have bq := below_step (w := W) (by assumption) kx; have m0 := (bq.cell (p := ⟨R, 0, none⟩) hRW).trans c0; have m1 := (bq.cell (p := ⟨R, 1, none⟩) hRW).trans c1))
   have b2 := bA.trans (bq.mono bA.size)
   have hB2 := (bq.block _ (lt_of_heap hB)).trans hB
   have H2 := H.out.below bq
   clear c0 c1 c2 c3 m0 m1
   obtain ⟨c0, c1, c2, c3⟩ := four H2
   have hf := free_of H2 1
   have hlt2 := lt_of_heap hB2
   have hR2 := lt_of_heap H2
   have hne : ¬ w.heap.size = R := by omega
   obtain ⟨e0, e1, e2, e3, e4, e5, e6, e7⟩ := eight hB2
   obtain ⟨f0, f1, f2, f3, f4, f5, f6, f7⟩ := free8 hB2
   have r1 : Rdr R s (q + n) o u (wx.setCell ⟨R, 1, none⟩ (.int .i64 ((q : Int) + (n : Int)))) := H2.goes (q + n)
   have k3 := grown_cell wx R 1 (.int .i64 ((q : Int) + (n : Int)))
   have hB3 := kept_of hB2 k3 hne
   have hB4 := store8 hB3 (.int .i64 4) (.bool false) (.bool false) (.string ⟨#[]⟩) (.int .i64 0) (.string (txt st)) (.slice none 0 0) (.slice none 0 0)
   have k4 := grown8 (wx.setCell ⟨R, 1, none⟩ (.int .i64 ((q : Int) + (n : Int)))) w.heap.size (.int .i64 4) (.bool false) (.bool false) (.string ⟨#[]⟩) (.int .i64 0) (.string (txt st)) (.slice none 0 0) (.slice none 0 0)
   have g5 := grown_on (grown_trans (below_grown (row := some R) b2) k3) k4 (Nat.le_refl _)
   have r5 := r1.kept k4 (by simp; omega)
   have HB := Lib.hid hB4
   have HG := Lib.hid g5
   have HR := Lib.hid r5
   clear hB hB2 hB3 hB4 k3 k4 g5 r5 r1
   go_wp2_with fail
   obtain ⟨d0, d1, d2, d3, d4, d5, d6, d7⟩ := eight HB.out
   refine bodyPost_ret (v := .tuple #[.agg #[.int .i64 4, .bool false, .bool false, .string ⟨#[]⟩, .int .i64 0, .string (txt st), .slice none 0 0, .slice none 0 0], .int .i64 0]) (by simp [results, Tryz.results42, go_sem, d0, d1, d2, d3, d4, d5, d6, d7]) rfl ?_
   exact .ok HN.out HQ.out HG.out (flat_hold 4 false Num.zero st _ _) HR.out
 · rw [if_pos h0] at hnum
   have h0' : (((ee : Nat) : Int) != 0) = true := by simpa using h0
   have HN := Lib.hid hnum
   have HQ := Lib.hid hdq
   have H := Lib.hid hA
   have HS := Lib.hid hsc
   clear hnum hdq hok h0 hdd hgn ht h hdz hl hA hsc hW hdl
   go_enter Tryz.func42, Tryz.ntmps42
   go_wp2_with fail
   rw [HW.out]
   go_region_held3 (fun wx => wx.cell? ⟨R, 0, none⟩ = some (.string (txt s)) ∧ wx.cell? ⟨R, 1, none⟩ = some (.int .i64 q))
     (first | assumption | go_keep)
     (first | (go_at_call 65; refine (HS.out _ (by assumption)).mono ?_; rintro e wx ⟨rfl, kx⟩; have bq := below_step (w := W) (by assumption) kx; have m0 := (bq.cell (p := ⟨R, 0, none⟩) hRW).trans c0; have m1 := (bq.cell (p := ⟨R, 1, none⟩) hRW).trans c1))
   have b2 := bA.trans (bq.mono bA.size)
   have hB2 := (bq.block _ (lt_of_heap hB)).trans hB
   have H2 := H.out.below bq
   clear c0 c1 c2 c3 m0 m1
   obtain ⟨e0, e1, e2, e3, e4, e5, e6, e7⟩ := eight hB2
   obtain ⟨f0, f1, f2, f3, f4, f5, f6, f7⟩ := free8 hB2
   have hB4 := store8 hB2 (.int .i64 0) (.bool false) (.bool false) (.string ⟨#[]⟩) (.int .i64 0) (.string ⟨#[]⟩) (.slice none 0 0) (.slice none 0 0)
   have k4 := grown8 wx w.heap.size (.int .i64 0) (.bool false) (.bool false) (.string ⟨#[]⟩) (.int .i64 0) (.string ⟨#[]⟩) (.slice none 0 0) (.slice none 0 0)
   have g5 := grown_on (below_grown (row := some R) b2) k4 (Nat.le_refl _)
   have r5 := H2.kept k4 (by simp; omega)
   have HB := Lib.hid hB4
   have HG := Lib.hid g5
   have HR := Lib.hid r5
   clear hB hB2 hB4 k4 g5 r5 H2
   go_wp2_with fail
   obtain ⟨d0, d1, d2, d3, d4, d5, d6, d7⟩ := eight HB.out
   refine bodyPost_ret (v := .tuple #[zeroV, .int .i64 ee]) (by simp [results, Tryz.results42, go_sem, zeroV, d0, d1, d2, d3, d4, d5, d6, d7]) rfl ?_
   exact .no HN.out HQ.out HG.out HR.out
end Go.Proofs.YtlfbnfphocpgeaaGreatDoor.Jdec
namespace Go.Proofs.YtlfbnfphocpgeaaGreatDoor.Jdec
open Go.RowKit Kit Txt
open Utf (nb)
open Tre (Seen)
structure Off (X : Nat → Prop) (a b : World) : Prop where
 os : b.os = a.os
 tape : b.tape = a.tape
 output : b.output = a.output
 size : a.heap.size ≤ b.heap.size
 block : ∀ i, i < a.heap.size → ¬ X i → b.heap[i]? = a.heap[i]?
theorem Off.trans {X : Nat → Prop} {a b c : World} (h : Off X a b) (k : Off X b c) : Off X a c :=
 ⟨k.os.trans h.os, k.tape.trans h.tape, k.output.trans h.output, Nat.le_trans h.size k.size, fun i hi hx => (k.block i (Nat.lt_of_lt_of_le hi h.size) hx).trans (h.block i hi hx)⟩
theorem Off.of_grown {X : Nat → Prop} {a b : World} {r : Nat} (k : a.grownBy b (some r)) (hX : X r ∨ a.heap.size ≤ r) : Off X a b :=
 ⟨k.os, k.tape, k.output, k.size, fun i hi hx => k.block i hi fun e => by
   cases e
   rcases hX with h | h
   · exact hx h
   · omega⟩
theorem Off.of_below {X : Nat → Prop} {a b : World} (k : Below a.heap.size a b) : Off X a b := ⟨k.os, k.tape, k.output, k.size, fun i hi _ => k.block i hi⟩
theorem Off.mono {X Y : Nat → Prop} {a b : World} (h : Off X a b) (hXY : ∀ i, i < a.heap.size → X i → Y i) : Off Y a b := ⟨h.os, h.tape, h.output, h.size, fun i hi hy => h.block i hi fun hx => hy (hXY i hi hx)⟩
theorem Off.grown {X : Nat → Prop} {a b : World} {R : Nat} (h : Off X a b) (hX : ∀ i, i < a.heap.size → X i → i = R) : a.grownBy b (some R) :=
 ⟨h.os, h.tape, h.output, h.size, fun i hi hr => h.block i hi fun hx => hr (by rw [hX i hi hx])⟩
theorem Off.at {X : Nat → Prop} {a b : World} {g : Nat} {o : Obj} (h : Off X a b) (hg : a.heap[g]? = some o) (hx : ¬ X g) : b.heap[g]? = some o := (h.block g (lt_of_heap hg) hx).trans hg
theorem seen_other {w w' : World} {b j : Nat} {ks : List (List UInt8)} (h : Seen w b j ks) (e : w'.heap[b]? = w.heap[b]?) : Seen w' b j ks := by
 obtain ⟨D, ⟨es, clock, hb, rest⟩, hD⟩ := h
 exact ⟨D, ⟨es, clock, e.trans hb, rest⟩, hD⟩
theorem seen_lt {w : World} {b j : Nat} {ks : List (List UInt8)} (h : Seen w b j ks) : b < w.heap.size := by
 obtain ⟨D, ⟨es, clock, hb, rest⟩, hD⟩ := h
 exact lt_of_heap hb
theorem seen_ne {w : World} {b j R q : Nat} {ks : List (List UInt8)} {s : List UInt8} {o : Int} {u : Value} (h : Seen w b j ks) (hr : Rdr R s q o u w) : b ≠ R := by
 obtain ⟨D, ⟨es, clock, hb, rest⟩, hD⟩ := h
 rintro rfl
 unfold Rdr at hr
 rw [hr] at hb
 cases hb
theorem seen_more {w : World} {b : Nat} {ks : List (List UInt8)} (h : Seen w b ks.length ks) (k : List UInt8) : Seen w b ks.length (ks ++ [k]) := by
 obtain ⟨D, h1, hD⟩ := h
 refine ⟨D, h1, fun l hl => ?_⟩
 rw [hD l hl, List.take_left, List.take_length]
theorem want_head (c : UInt8) (l : List UInt8) : (wantE c l = 0 ↔ l.head? = some c) ∧ (wantE c l ≠ 0 → ∀ α : Type, (here l : Got α) = .no l (wantE c l)) := by
 cases l with
 | nil => exact ⟨⟨fun h => absurd (show (2 : Nat) = 0 from h) (by decide), fun h => absurd h (by simp)⟩, fun _ _ => rfl⟩
 | cons d r =>
   by_cases h : d = c
   · subst h
     have e : wantE d (d :: r) = 0 := if_pos rfl
     exact ⟨⟨fun _ => rfl, fun _ => e⟩, fun h => absurd e h⟩
   · have e : wantE c (d :: r) = 3 := if_neg h
     refine ⟨⟨fun h2 => ?_, fun h2 => ?_⟩, fun _ _ => ?_⟩
     · rw [e] at h2
       cases h2
     · injection h2 with h2
       exact absurd h2 h
     · rw [e]
       rfl
theorem field_eq (keys : List (List UInt8)) (l : List UInt8) : field keys l =
   if (Quo.scan l).e ≠ 0 then .no l (Quo.scan l).e
   else if (Quo.scan l).s ∈ keys then .no l 6
   else if wantE 58 (skip (l.drop (Quo.scan l).size)) ≠ 0 then .no (skip (l.drop (Quo.scan l).size)) (wantE 58 (skip (l.drop (Quo.scan l).size)))
   else .ok (Quo.scan l).s (skip (skip (l.drop (Quo.scan l).size)).tail) := by
 unfold field
 by_cases h : l.head? = some 34
 · have hn : ¬ (l.head? ≠ some 34) := fun e => e h
   rw [if_neg hn]
   by_cases h1 : (Quo.scan l).e = 0
   · have hn1 : ¬ ((Quo.scan l).e ≠ 0) := fun e => e h1
     rw [if_neg hn1, if_neg hn1]
     by_cases h2 : (Quo.scan l).s ∈ keys
     · rw [if_pos h2, if_pos h2]
     · rw [if_neg h2, if_neg h2]
       by_cases h3 : (skip (l.drop (Quo.scan l).size)).head? = some 58
       · have hn3 : ¬ ((skip (l.drop (Quo.scan l).size)).head? ≠ some 58) := fun e => e h3
         have hn4 : ¬ (wantE 58 (skip (l.drop (Quo.scan l).size)) ≠ 0) := fun e => e ((want_head 58 _).1.2 h3)
         rw [if_neg hn3, if_neg hn4]
       · have h4 : wantE 58 (skip (l.drop (Quo.scan l).size)) ≠ 0 := fun e => h3 ((want_head 58 _).1.1 e)
         rw [if_pos h3, if_pos h4, (want_head 58 _).2 h4]
   · rw [if_pos h1, if_pos h1]
 · rw [if_pos h]
   have e : (Quo.scan l).e = wantE 34 l ∧ wantE 34 l ≠ 0 := by
     cases l with
     | nil => exact ⟨rfl, by decide⟩
     | cons c r =>
       have hc : c ≠ 34 := fun e => h (by rw [e]; rfl)
       have e1 : wantE 34 (c :: r) = 3 := if_neg hc
       have e2 : Quo.scan (c :: r) = Quo.err 3 := if_pos hc
       rw [e1, e2]
       exact ⟨rfl, by decide⟩
   rw [if_pos (by rw [e.1]; exact e.2), e.1, (want_head 34 l).2 e.2]
def KeyTold (R M : Nat) (s : List UInt8) (u : Value) (o : Int) (keys : List (List UInt8)) (w : World) (g : Got (List UInt8)) (e : Ending) (w' : World) : Prop :=
 Off (fun i => i = R ∨ i = M) w w' ∧ match g with
 | .ok k r => e = .returned (.tuple #[.string (txt k), .int .i64 0]) ∧ Rdr R s (s.length - r.length) o u w' ∧ Seen w' M (keys.length + 1) (keys ++ [k])
 | .no r n => e = .returned (.tuple #[.string ⟨#[]⟩, .int .i64 n]) ∧ Rdr R s (s.length - r.length) o u w'
theorem KeyTold.ok {R M : Nat} {s : List UInt8} {u : Value} {o : Int} {keys : List (List UInt8)} {w w' : World} {g : Got (List UInt8)} {k r : List UInt8} {q : Nat} (hg : g = .ok k r) (hq : s.length - r.length = q) (h : Off (fun i => i = R ∨ i = M) w w') (hr : Rdr R s q o u w') (hS : Seen w' M (keys.length + 1) (keys ++ [k])) :
   KeyTold R M s u o keys w g (.returned (.tuple #[.string (txt k), .int .i64 0])) w' := by
 subst hg; subst hq
 exact ⟨h, rfl, hr, hS⟩
theorem KeyTold.no {R M : Nat} {s : List UInt8} {u : Value} {o : Int} {keys : List (List UInt8)} {w w' : World} {g : Got (List UInt8)} {r : List UInt8} {q n : Nat} (hg : g = .no r n) (hq : s.length - r.length = q) (h : Off (fun i => i = R ∨ i = M) w w') (hr : Rdr R s q o u w') :
   KeyTold R M s u o keys w g (.returned (.tuple #[.string ⟨#[]⟩, .int .i64 n])) w' := by
 subst hg; subst hq
 exact ⟨h, rfl, hr⟩
set_option maxRecDepth 100000 in
set_option maxHeartbeats 8000000 in
theorem mkey_any {w : World} {R M : Nat} {s : List UInt8} {q : Nat} {o : Int} {u : Value} {keys : List (List UInt8)} (hs : s.length < 100000) (hq : q ≤ s.length) (hk : keys.length < 1000000) (ht : Utf.Laid w) (h : Rdr R s q o u w) (hS : Seen w M keys.length keys) :
   Calls Tryz.prog 63 #[rp R, .map (some M)] w (KeyTold R M s u o keys w (field keys (s.drop q))) := by
 have hz := txt_size s
 have hR := lt_of_heap h
 have hMR := seen_ne hS h
 have hMl := seen_lt hS
 obtain ⟨c0, c1, c2, c3⟩ := four h
 have hsl := slL (l := s) (z := (q : Int)) rfl hq
 have hdl : (s.drop q).length < 100000 := by rw [List.length_drop]; omega
 have hdq := drop_at hq
 have hdz := List.length_drop (l := s) (i := q)
 have hsc := fun wx (hb : Below w.heap.size w wx) => Quo.qscan_laid (w := wx) hdl (laid_below ht hb)
 have hf := field_eq keys (s.drop q)
 have hdd : (s.drop q).drop (Quo.scan (s.drop q)).size = s.drop (q + (Quo.scan (s.drop q)).size) := by rw [List.drop_drop]
 rw [hdd] at hf
 have hok := fun (h : (Quo.scan (s.drop q)).e = 0) => (scan_ok h).2.2
 have hlen := Quo.scan_len (s.drop q)
 generalize hl : s.drop q = l at *
 generalize Quo.scan l = p at *
 obtain ⟨k, n, ee⟩ := p
 dsimp only at *
 generalize hgn : field keys l = g at *
 have bq0 := drew_below w
 unfold rp
 by_cases h0 : ee = 0
 · subst h0
   rw [if_neg (by simp)] at hf
   have hnl := hok rfl
   have hqn : q + n ≤ s.length := by omega
   have hwq : IntKind.i64.wrap ((q : Int) + (n : Int)) = (q : Int) + (n : Int) := by
     simp only [IntKind.wrap, IntKind.signed, IntKind.bits]; simp; omega
   have hlook := fun wx (hb : Below w.heap.size w wx) => (hS.grown (hb.mono (Nat.le_refl _))).look (l := k) (by omega) (by kernel_rfl)
   simp only [List.take_length] at hlook
   by_cases hin : k ∈ keys
   · rw [if_pos hin] at hf
     simp only [hin, decide_true] at hlook
     have HN := Lib.hid hf
     have HQ := Lib.hid hdq
     have HS := Lib.hid hsc
     have H := Lib.hid h
     have HL := Lib.hid hlook
     clear hf hdq hok hdd hgn ht h hdz hl hsc hdl hlook hS hin hlen hk
     go_enter Tryz.func63, Tryz.ntmps63
     go_wp2_with fail
     go_region_held3 (fun wx => wx.cell? ⟨R, 0, none⟩ = some (.string (txt s)) ∧ wx.cell? ⟨R, 1, none⟩ = some (.int .i64 q))
       (first | assumption | go_keep)
       (first | (go_at_call 65; refine (HS.out _ (by assumption)).mono ?_; rintro e wx ⟨rfl, kx⟩; have bq := below_step (w := w) (by assumption) kx; have m0 := (bq.cell (p := ⟨R, 0, none⟩) hR).trans c0; have m1 := (bq.cell (p := ⟨R, 1, none⟩) hR).trans c1))
     have hlk := HL.out wx bq
     clear c0 c1 c2 c3 m0 m1
     go_wp2_with fail
     go_ret2
     exact .no (n := 6) HN.out HQ.out (.of_below bq) (H.out.below bq)
   · rw [if_neg hin] at hf
     simp only [hin, decide_false] at hlook
     have hput := fun wx (hb : Below w.heap.size w wx) => Tre.Seen.put (seen_more (hS.grown (hb.mono (Nat.le_refl _))) k) (by simp) (by simp; omega) (by simp; omega)
     simp only [List.getElem_concat_length] at hput
     have hq2 := skipAt_le s (q + n)
     have hd2 := skipAt_drop (l := s) (i := q + n)
     rw [← hd2] at hf
     have hsk := fun wx (hr : Rdr R s (q + n) o u wx) => mskip_any (w := wx) hs hqn hr
     generalize skipAt s (q + n) = q2 at *
     have hwt := fun wx (hr : Rdr R s q2 o u wx) => want_any (w := wx) (c := 58) (x := 58) hs hq2 hr rfl
     by_cases he : wantE 58 (s.drop q2) = 0
     · have hlq : q2 < s.length := by
         by_cases h : q2 < s.length
         · exact h
         · rw [want_past (by omega)] at he
           cases he
       have hsk2 := fun wx (hr : Rdr R s (q2 + 1) o u wx) => mskip_any (w := wx) hs (by omega) hr
       have hd3 := skipAt_drop (l := s) (i := q2 + 1)
       rw [if_neg (by simpa using he), List.tail_drop, ← hd3] at hf
       have hdq3 := drop_at (skipAt_le s (q2 + 1))
       simp only [wantQ, he, if_true] at hwt
       have HN := Lib.hid hf
       have HQ := Lib.hid hdq3
       have HS := Lib.hid hsc
       have H := Lib.hid h
       have HL := Lib.hid hlook
       have HP := Lib.hid hput
       have HK := Lib.hid hsk
       have HK2 := Lib.hid hsk2
       have HW := Lib.hid hwt
       have HM := Lib.hid hMR
       clear hf hdq hdq3 hok hdd hgn ht h hdz hl hsc hdl hlook hS hin hlen hk hput hsk hsk2 hwt hMR hd2 hd3 he
       unfold rp at HK HK2 HW
       go_enter Tryz.func63, Tryz.ntmps63
       go_wp2_with fail
       go_region_held3 (fun wx => wx.cell? ⟨R, 0, none⟩ = some (.string (txt s)) ∧ wx.cell? ⟨R, 1, none⟩ = some (.int .i64 q))
         (first | assumption | go_keep)
         (first | (go_at_call 65; refine (HS.out _ (by assumption)).mono ?_; rintro e wx ⟨rfl, kx⟩; have bq := below_step (w := w) (by assumption) kx; have m0 := (bq.cell (p := ⟨R, 0, none⟩) hR).trans c0; have m1 := (bq.cell (p := ⟨R, 1, none⟩) hR).trans c1))
       have hlk := HL.out wx bq
       obtain ⟨w2, hrun, hS2, hg2⟩ := HP.out wx bq
       clear c0 c1 c2 c3 m0 m1
       have h2 := (H.out.below bq).kept hg2 (by have := HM.out; simp; omega)
       obtain ⟨c0, c1, c2, c3⟩ := four h2
       have hf1 := free_of h2 1
       have r3 : Rdr R s (q + n) o u (w2.setCell ⟨R, 1, none⟩ (.int .i64 ((q : Int) + (n : Int)))) := h2.goes (q + n)
       have x3 : Off (fun i => i = R ∨ i = M) w (w2.setCell ⟨R, 1, none⟩ (.int .i64 ((q : Int) + (n : Int)))) := ((Off.of_below bq).trans (.of_grown hg2 (.inl (.inr rfl)))).trans (.of_grown (grown_cell w2 R 1 _) (.inl (.inl rfl)))
       have s3 := seen_other hS2 ((grown_cell w2 R 1 (.int .i64 ((q : Int) + (n : Int)))).block M (seen_lt hS2) (by have := HM.out; simp; omega))
       have HX := Lib.hid x3
       have HR := Lib.hid r3
       have HS3 := Lib.hid s3
       clear x3 r3 s3 hS2 hg2
       go_wp2_with fail
       refine (HK.out _ HR.out).mono ?_
       rintro e w4 ⟨rfl, r4, g4⟩
       have x4 := HX.out.trans (.of_grown g4 (.inl (.inl rfl)))
       have s4 := seen_other HS3.out (g4.block M (seen_lt HS3.out) (by have := HM.out; simp; omega))
       have HX4 := Lib.hid x4
       have HR4 := Lib.hid r4
       have HS4 := Lib.hid s4
       clear x4 r4 s4 g4 HX HR HS3 c0 c1 c2 c3 hf1 h2 hrun
       go_wp2_with fail
       refine (HW.out _ HR4.out).mono ?_
       rintro e w5 ⟨rfl, r5, g5⟩
       have x5 := HX4.out.trans (.of_grown g5 (.inl (.inl rfl)))
       have s5 := seen_other HS4.out (g5.block M (seen_lt HS4.out) (by have := HM.out; simp; omega))
       have HX5 := Lib.hid x5
       have HR5 := Lib.hid r5
       have HS5 := Lib.hid s5
       clear x5 r5 s5 g5
       go_wp2_with fail
       refine (HK2.out _ HR5.out).mono ?_
       rintro e w6 ⟨rfl, r6, g6⟩
       have x6 := HX5.out.trans (.of_grown g6 (.inl (.inl rfl)))
       have s6 := seen_other HS5.out (g6.block M (seen_lt HS5.out) (by have := HM.out; simp; omega))
       have HX6 := Lib.hid x6
       have HR6 := Lib.hid r6
       have HS6 := Lib.hid s6
       clear x6 r6 s6 g6
       go_wp2_with fail
       go_ret2
       exact .ok HN.out HQ.out HX6.out HR6.out HS6.out
     · rw [if_pos he] at hf
       have hne : (((wantE 58 (s.drop q2) : Nat) : Int) != 0) = true := by simpa using he
       simp only [wantQ, he, if_false] at hwt
       have hdq3 := drop_at hq2
       generalize wantE 58 (s.drop q2) = ew at *
       have HN := Lib.hid hf
       have HQ := Lib.hid hdq3
       have HS := Lib.hid hsc
       have H := Lib.hid h
       have HL := Lib.hid hlook
       have HP := Lib.hid hput
       have HK := Lib.hid hsk
       have HW := Lib.hid hwt
       have HM := Lib.hid hMR
       clear hf hdq hdq3 hok hdd hgn ht h hdz hl hsc hdl hlook hS hin hlen hk hput hsk hwt hMR hd2 he
       unfold rp at HK HW
       go_enter Tryz.func63, Tryz.ntmps63
       go_wp2_with fail
       go_region_held3 (fun wx => wx.cell? ⟨R, 0, none⟩ = some (.string (txt s)) ∧ wx.cell? ⟨R, 1, none⟩ = some (.int .i64 q))
         (first | assumption | go_keep)
         (first | (go_at_call 65; refine (HS.out _ (by assumption)).mono ?_; rintro e wx ⟨rfl, kx⟩; have bq := below_step (w := w) (by assumption) kx; have m0 := (bq.cell (p := ⟨R, 0, none⟩) hR).trans c0; have m1 := (bq.cell (p := ⟨R, 1, none⟩) hR).trans c1))
       have hlk := HL.out wx bq
       obtain ⟨w2, hrun, hS2, hg2⟩ := HP.out wx bq
       clear c0 c1 c2 c3 m0 m1
       have h2 := (H.out.below bq).kept hg2 (by have := HM.out; simp; omega)
       obtain ⟨c0, c1, c2, c3⟩ := four h2
       have hf1 := free_of h2 1
       have r3 : Rdr R s (q + n) o u (w2.setCell ⟨R, 1, none⟩ (.int .i64 ((q : Int) + (n : Int)))) := h2.goes (q + n)
       have x3 : Off (fun i => i = R ∨ i = M) w (w2.setCell ⟨R, 1, none⟩ (.int .i64 ((q : Int) + (n : Int)))) := ((Off.of_below bq).trans (.of_grown hg2 (.inl (.inr rfl)))).trans (.of_grown (grown_cell w2 R 1 _) (.inl (.inl rfl)))
       have HX := Lib.hid x3
       have HR := Lib.hid r3
       clear x3 r3 hS2 hg2
       go_wp2_with fail
       refine (HK.out _ HR.out).mono ?_
       rintro e w4 ⟨rfl, r4, g4⟩
       have x4 := HX.out.trans (.of_grown g4 (.inl (.inl rfl)))
       have HX4 := Lib.hid x4
       have HR4 := Lib.hid r4
       clear x4 r4 g4 HX HR c0 c1 c2 c3 hf1 h2 hrun
       go_wp2_with fail
       refine (HW.out _ HR4.out).mono ?_
       rintro e w5 ⟨rfl, r5, g5⟩
       have x5 := HX4.out.trans (.of_grown g5 (.inl (.inl rfl)))
       have HX5 := Lib.hid x5
       have HR5 := Lib.hid r5
       clear x5 r5 g5
       go_wp2_with fail
       go_ret2
       exact .no HN.out HQ.out HX5.out HR5.out
 · rw [if_pos h0] at hf
   have h0' : (((ee : Nat) : Int) != 0) = true := by simpa using h0
   have HN := Lib.hid hf
   have HQ := Lib.hid hdq
   have HS := Lib.hid hsc
   have H := Lib.hid h
   clear hf hdq hok hdd hgn ht h hdz hl hsc hdl hS hlen hk h0
   go_enter Tryz.func63, Tryz.ntmps63
   go_wp2_with fail
   go_region_held3 (fun wx => wx.cell? ⟨R, 0, none⟩ = some (.string (txt s)) ∧ wx.cell? ⟨R, 1, none⟩ = some (.int .i64 q))
     (first | assumption | go_keep)
     (first | (go_at_call 65; refine (HS.out _ (by assumption)).mono ?_; rintro e wx ⟨rfl, kx⟩; have bq := below_step (w := w) (by assumption) kx; have m0 := (bq.cell (p := ⟨R, 0, none⟩) hR).trans c0; have m1 := (bq.cell (p := ⟨R, 1, none⟩) hR).trans c1))
   clear c0 c1 c2 c3 m0 m1
   go_wp2_with fail
   go_ret2
   exact .no HN.out HQ.out (.of_below bq) (H.out.below bq)
end Go.Proofs.YtlfbnfphocpgeaaGreatDoor.Jdec
