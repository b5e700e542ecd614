/- A part of what is_holds leans on (its texts, put together). Nothing is claimed here. -/
import Derived.Test.YtlfbnfphocpgeaaGreatDoorIs8
import Derived.Test.YtlfbnfphocpgeaaGreatDoorIs13
namespace Go.Proofs.YtlfbnfphocpgeaaGreatDoor.Jdec
open Go.RowKit Kit Txt
open Utf (nb)
def Rdr (R : Nat) (s : List UInt8) (q : Nat) (o : Int) (u : Value) (w : World) : Prop := w.heap[R]? = some (.cells #[.string (txt s), .int .i64 q, .int .i64 o, u] 55 (0, 0))
def rp (R : Nat) : Value := .pointer (some ⟨R, 0, none⟩)
theorem Rdr.goes {R : Nat} {s : List UInt8} {q : Nat} {o : Int} {u : Value} {w : World} (h : Rdr R s q o u w) (q' : Nat) : Rdr R s q' o u (w.setCell ⟨R, 1, none⟩ (.int .i64 q')) := set_of h 1 _
theorem Rdr.opens {R : Nat} {s : List UInt8} {q : Nat} {o : Int} {u : Value} {w : World} (h : Rdr R s q o u w) (o' : Int) : Rdr R s q o' u (w.setCell ⟨R, 2, none⟩ (.int .i64 o')) := set_of h 2 _
theorem Rdr.kept {R : Nat} {s : List UInt8} {q : Nat} {o : Int} {u : Value} {w w' : World} {row : Option Nat} (h : Rdr R s q o u w) (k : w.grownBy w' row) (hr : some R ≠ row) : Rdr R s q o u w' := (k.block R (lt_of_heap h) hr).trans h
theorem Rdr.below {R : Nat} {s : List UInt8} {q : Nat} {o : Int} {u : Value} {w w' : World} (h : Rdr R s q o u w) (k : Below w.heap.size w w') : Rdr R s q o u w' := (k.block R (lt_of_heap h)).trans h
theorem four {W : World} {g : Nat} {a b c d : Value} {t : TypeId} {fr : Nat × Nat} (h : W.heap[g]? = some (.cells #[a, b, c, d] t fr)) : W.cell? ⟨g, 0, none⟩ = some a ∧ W.cell? ⟨g, 1, none⟩ = some b ∧ W.cell? ⟨g, 2, none⟩ = some c ∧ W.cell? ⟨g, 3, none⟩ = some d :=
 ⟨cell_of h 0, cell_of h 1, cell_of h 2, cell_of h 3⟩
theorem grown_trans {a b c : World} {row : Option Nat} (h : a.grownBy b row) (k : b.grownBy c row) : a.grownBy c row :=
 ⟨k.os.trans h.os, k.tape.trans h.tape, k.output.trans h.output, Nat.le_trans h.size k.size, fun i hi hr => (k.block i (Nat.lt_of_lt_of_le hi h.size) hr).trans (h.block i hi hr)⟩
theorem grown_below {a b c : World} {row : Option Nat} (h : a.grownBy b row) (k : Below b.heap.size b c) : a.grownBy c row :=
 ⟨k.os.trans h.os, k.tape.trans h.tape, k.output.trans h.output, Nat.le_trans h.size k.size, fun i hi hr => (k.block i (Nat.lt_of_lt_of_le hi h.size)).trans (h.block i hi hr)⟩
theorem grown_cell (w : World) (b i : Nat) (v : Value) : w.grownBy (w.setCell ⟨b, i, none⟩ v) (some b) :=
 ⟨rfl, rfl, rfl, (KeepsWalks.setCell w _ v).size, fun k _ hk => Below.heap_setCell _ _ _ k (fun e => hk (by rw [e]))⟩
theorem drew_below (w : World) : Below w.heap.size w w.drew := below_drewN (Below.refl _ w) 1
theorem store8 {W : World} {g : Nat} {z0 z1 z2 z3 z4 z5 z6 z7 : Value} {t : TypeId} {fr : Nat × Nat} (h : W.heap[g]? = some (.cells #[z0, z1, z2, z3, z4, z5, z6, z7] t fr)) (a0 a1 a2 a3 a4 a5 a6 a7 : Value) :
   ((((((((W.setCell ⟨g, 0, none⟩ a0).setCell ⟨g, 1, none⟩ a1).setCell ⟨g, 2, none⟩ a2).setCell ⟨g, 3, none⟩ a3).setCell ⟨g, 4, none⟩ a4).setCell ⟨g, 5, none⟩ a5).setCell ⟨g, 6, none⟩ a6).setCell ⟨g, 7, none⟩ a7).heap[g]? = some (.cells #[a0, a1, a2, a3, a4, a5, a6, a7] t fr) := by
 have := set_of (set_of (set_of (set_of (set_of (set_of (set_of (set_of h 0 a0) 1 a1) 2 a2) 3 a3) 4 a4) 5 a5) 6 a6) 7 a7
 simpa using this
theorem grown8 (W : World) (g : Nat) (a0 a1 a2 a3 a4 a5 a6 a7 : Value) : W.grownBy ((((((((W.setCell ⟨g, 0, none⟩ a0).setCell ⟨g, 1, none⟩ a1).setCell ⟨g, 2, none⟩ a2).setCell ⟨g, 3, none⟩ a3).setCell ⟨g, 4, none⟩ a4).setCell ⟨g, 5, none⟩ a5).setCell ⟨g, 6, none⟩ a6).setCell ⟨g, 7, none⟩ a7) (some g) :=
 grown_trans (grown_trans (grown_trans (grown_trans (grown_trans (grown_trans (grown_trans (grown_cell _ g 0 _) (grown_cell _ g 1 _)) (grown_cell _ g 2 _)) (grown_cell _ g 3 _)) (grown_cell _ g 4 _)) (grown_cell _ g 5 _)) (grown_cell _ g 6 _)) (grown_cell _ g 7 _)
theorem grown_on {a b c : World} {row : Option Nat} {g : Nat} (h : a.grownBy b row) (k : b.grownBy c (some g)) (hg : a.heap.size ≤ g) : a.grownBy c row :=
 ⟨k.os.trans h.os, k.tape.trans h.tape, k.output.trans h.output, Nat.le_trans h.size k.size, fun i hi hr => (k.block i (Nat.lt_of_lt_of_le hi h.size) (fun e => by cases e; omega)).trans (h.block i hi hr)⟩
theorem grown_alloc {a b : World} {row : Option Nat} (h : a.grownBy b row) (o : Obj) : a.grownBy (b.alloc o) row := grown_below h ((Below.refl _ b).alloc (Nat.le_refl _) o)
theorem kept_of {w w' : World} {R g : Nat} {o : Obj} (h : w.heap[g]? = some o) (k : w.grownBy w' (some R)) (hne : g ≠ R) : w'.heap[g]? = some o := (k.block g (lt_of_heap h) (fun e => hne (by cases e; rfl))).trans h
theorem eight {W : World} {g : Nat} {a b c d e f x y : Value} {t : TypeId} {fr : Nat × Nat} (h : W.heap[g]? = some (.cells #[a, b, c, d, e, f, x, y] t fr)) :
   W.cell? ⟨g, 0, none⟩ = some a ∧ W.cell? ⟨g, 1, none⟩ = some b ∧ W.cell? ⟨g, 2, none⟩ = some c ∧ W.cell? ⟨g, 3, none⟩ = some d ∧ W.cell? ⟨g, 4, none⟩ = some e ∧ W.cell? ⟨g, 5, none⟩ = some f ∧ W.cell? ⟨g, 6, none⟩ = some x ∧ W.cell? ⟨g, 7, none⟩ = some y :=
 ⟨cell_of h 0, cell_of h 1, cell_of h 2, cell_of h 3, cell_of h 4, cell_of h 5, cell_of h 6, cell_of h 7⟩
theorem free8 {W : World} {g : Nat} {a b c d e f x y : Value} {t : TypeId} (h : W.heap[g]? = some (.cells #[a, b, c, d, e, f, x, y] t (0, 0))) :
   W.frozen? ⟨g, 0, none⟩ = false ∧ W.frozen? ⟨g, 1, none⟩ = false ∧ W.frozen? ⟨g, 2, none⟩ = false ∧ W.frozen? ⟨g, 3, none⟩ = false ∧ W.frozen? ⟨g, 4, none⟩ = false ∧ W.frozen? ⟨g, 5, none⟩ = false ∧ W.frozen? ⟨g, 6, none⟩ = false ∧ W.frozen? ⟨g, 7, none⟩ = false :=
 ⟨free_of h 0, free_of h 1, free_of h 2, free_of h 3, free_of h 4, free_of h 5, free_of h 6, free_of h 7⟩
def nextIs (c : UInt8) (l : List UInt8) : Bool := decide (l.head? = some c)
theorem next_at {c : UInt8} {l : List UInt8} {q : Nat} (h : q < l.length) : nextIs c (l.drop q) = decide (nb l q = c.toNat) := by
 unfold nextIs
 rw [List.drop_eq_getElem_cons h, nb_get h]
 rw [decide_eq_decide]
 exact ⟨fun e => by injection e with e; rw [e], fun e => by rw [List.head?_cons, UInt8.toNat_inj.1 e]⟩
theorem next_past {c : UInt8} {l : List UInt8} {q : Nat} (h : l.length ≤ q) : nextIs c (l.drop q) = false := by
 unfold nextIs
 rw [List.drop_eq_nil_of_le h]
 rfl
set_option maxRecDepth 100000 in
set_option maxHeartbeats 4000000 in
theorem has_any {w : World} {R : Nat} {s : List UInt8} {q : Nat} {o : Int} {u : Value} {c : UInt8} {x : Int} (_hs : s.length < 100000) (h : Rdr R s q o u w) (hx : x = (c.toNat : Int)) :
   Calls Tryz.prog 89 #[rp R, .int .u8 x] w fun e w' => e = .returned (.bool (nextIs c (s.drop q))) ∧ Below w.heap.size w w' := by
 subst hx
 obtain ⟨c0, c1, c2, c3⟩ := four h
 have hz := txt_size s
 unfold rp
 by_cases hq : q < s.length
 · have hlt1 : decide (q < s.length) = true := decide_eq_true hq
   have hlt' : (q : Int) < (s.length : Int) := by omega
   have hix := idx hq
   have hn := next_at (c := c) hq
   by_cases hc : nb s q = c.toNat
   · rw [decide_eq_true hc] at hn
     rw [hc] at hix
     rw [hn]
     clear hn hc h
     go_enter Tryz.func89, Tryz.ntmps89
     go_wp2_with fail
     go_quiet (fail)
     go_wp2_with fail
     go_ret
     exact ⟨rfl, below_drewN (Below.refl _ _) _⟩
   · rw [decide_eq_false hc] at hn
     rw [hn]
     have hne : (((nb s q : Nat) : Int) == ((c.toNat : Nat) : Int)) = false := by simp; omega
     generalize nb s q = y at *
     generalize c.toNat = z at *
     clear hn hc h
     go_enter Tryz.func89, Tryz.ntmps89
     go_wp2_with fail
     go_quiet (fail)
     go_wp2_with fail
     go_ret
     exact ⟨rfl, below_drewN (Below.refl _ _) _⟩
 · have hlt1 : decide (q < s.length) = false := decide_eq_false hq
   have hn := next_past (c := c) (l := s) (q := q) (by omega)
   rw [hn]
   clear hn h
   go_enter Tryz.func89, Tryz.ntmps89
   go_wp2_with fail
   go_quiet (fail)
   go_wp2_with fail
   go_ret
   exact ⟨rfl, below_drewN (Below.refl _ _) _⟩
def wantE (c : UInt8) (l : List UInt8) : Nat := match l with
 | [] => 2
 | d :: _ => if d = c then 0 else 3
def wantQ (c : UInt8) (l : List UInt8) (q : Nat) : Nat := if wantE c l = 0 then q + 1 else q
theorem want_at {c : UInt8} {l : List UInt8} {q : Nat} (h : q < l.length) : wantE c (l.drop q) = if nb l q = c.toNat then 0 else 3 := by
 rw [List.drop_eq_getElem_cons h, nb_get h]
 show (if l[q] = c then 0 else 3) = _
 have e : (l[q] = c ↔ l[q].toNat = c.toNat) := ⟨fun e => by rw [e], fun e => UInt8.toNat_inj.1 e⟩
 simp only [e]
theorem want_past {c : UInt8} {l : List UInt8} {q : Nat} (h : l.length ≤ q) : wantE c (l.drop q) = 2 := by
 rw [List.drop_eq_nil_of_le h]
 rfl
set_option maxRecDepth 100000 in
set_option maxHeartbeats 4000000 in
theorem want_any {w : World} {R : Nat} {s : List UInt8} {q : Nat} {o : Int} {u : Value} {c : UInt8} {x : Int} (hs : s.length < 100000) (hq : q ≤ s.length) (h : Rdr R s q o u w) (hx : x = (c.toNat : Int)) :
   Calls Tryz.prog 90 #[rp R, .int .u8 x] w fun e w' => e = .returned (.int .i64 (wantE c (s.drop q))) ∧ Rdr R s (wantQ c (s.drop q) q) o u w' ∧ w.grownBy w' (some R) := by
 subst hx
 obtain ⟨c0, c1, c2, c3⟩ := four h
 have hz := txt_size s
 have hf := free_of h 1
 have hR := lt_of_heap h
 unfold rp wantQ
 have hB := fun (n : Nat) => (show Rdr R s q o u (w.drewN n) from h)
 have hG := fun (n : Nat) => (show w.grownBy (w.drewN n) (some R) from ⟨rfl, rfl, rfl, Nat.le_refl _, fun _ _ _ => rfl⟩)
 by_cases hq2 : q < s.length
 · have heq : ((q : Int) == (s.length : Int)) = false := by simp; omega
   have hlt' : (q : Int) < (s.length : Int) := by omega
   have hwq : IntKind.i64.wrap ((q : Int) + 1) = (q : Int) + 1 := by simp only [IntKind.wrap, IntKind.signed, IntKind.bits]; simp; omega
   have hix := idx hq2
   have hn := want_at (c := c) hq2
   by_cases hc : nb s q = c.toNat
   · rw [if_pos hc] at hn
     rw [hn]
     rw [hc] at hix
     have hne : (((c.toNat : Nat) : Int) != ((c.toNat : Nat) : Int)) = false := by simp
     have fin : ∀ wx, Rdr R s q o u wx → w.grownBy wx (some R) → Rdr R s (q + 1) o u (wx.setCell ⟨R, 1, none⟩ (.int .i64 ((q : Int) + 1))) ∧ w.grownBy (wx.setCell ⟨R, 1, none⟩ (.int .i64 ((q : Int) + 1))) (some R) := fun wx h1 h2 => ⟨h1.goes (q + 1), grown_trans h2 (grown_cell _ _ _ _)⟩
     have HF := Lib.hid fin
     have HB := Lib.hid hB
     have HG := Lib.hid hG
     clear hn hc h fin hB hG
     go_enter Tryz.func90, Tryz.ntmps90
     go_wp2_with fail
     go_quiet (fail)
     go_wp2_with fail
     go_quiet (fail)
     go_wp2_with fail
     go_ret
     exact ⟨rfl, HF.out _ (HB.out _) (HG.out _)⟩
   · rw [if_neg hc] at hn
     rw [hn]
     have hne : (((nb s q : Nat) : Int) != ((c.toNat : Nat) : Int)) = true := by simp; omega
     generalize nb s q = y at *
     generalize c.toNat = z at *
     have HB := Lib.hid hB
     have HG := Lib.hid hG
     clear hn hc h hB hG
     go_enter Tryz.func90, Tryz.ntmps90
     go_wp2_with fail
     go_quiet (fail)
     go_wp2_with fail
     go_quiet (fail)
     go_wp2_with fail
     go_ret
     exact ⟨rfl, HB.out _, HG.out _⟩
 · have heq : ((q : Int) == (s.length : Int)) = true := by simp; omega
   have hn := want_past (c := c) (l := s) (q := q) (by omega)
   rw [hn]
   have HB := Lib.hid hB
   have HG := Lib.hid hG
   clear hn h hB hG
   go_enter Tryz.func90, Tryz.ntmps90
   go_wp2_with fail
   go_quiet (fail)
   go_wp2_with fail
   go_ret
   exact ⟨rfl, HB.out _, HG.out _⟩
end Go.Proofs.YtlfbnfphocpgeaaGreatDoor.Jdec
namespace Go.Proofs.YtlfbnfphocpgeaaGreatDoor.Jdec
open Go.RowKit Kit Txt
open Utf (nb)
def skipAt (l : List UInt8) (i : Nat) : Nat := l.length - (skip (l.drop i)).length
theorem skip_on {l : List UInt8} {q : Nat} (h : q < l.length) (hb : nb l q = 9 ∨ nb l q = 10 ∨ nb l q = 13 ∨ nb l q = 32) : skip (l.drop q) = skip (l.drop (q + 1)) := by
 rw [nb_get h] at hb
 have : blank l[q] = true := by
   unfold blank
   rw [decide_eq_true_eq]
   rcases hb with hb | hb | hb | hb
   · exact .inl (UInt8.toNat_inj.1 hb)
   · exact .inr (.inl (UInt8.toNat_inj.1 hb))
   · exact .inr (.inr (.inl (UInt8.toNat_inj.1 hb)))
   · exact .inr (.inr (.inr (UInt8.toNat_inj.1 hb)))
 unfold skip
 rw [List.drop_eq_getElem_cons h, List.dropWhile_cons, if_pos this]
theorem skip_stop {l : List UInt8} {q : Nat} (hb : nb l q ≠ 9 ∧ nb l q ≠ 10 ∧ nb l q ≠ 13 ∧ nb l q ≠ 32) : skip (l.drop q) = l.drop q := by
 by_cases h : q < l.length
 · rw [nb_get h] at hb
   have : blank l[q] = false := by
     unfold blank
     rw [decide_eq_false_iff_not]
     rintro (e | e | e | e) <;> (rw [e] at hb; revert hb; decide)
   unfold skip
   rw [List.drop_eq_getElem_cons h, List.dropWhile_cons, if_neg (by rw [this]; decide)]
 · rw [List.drop_eq_nil_of_le (by omega)]
   rfl
theorem skipAt_le (l : List UInt8) (i : Nat) : skipAt l i ≤ l.length := Nat.sub_le _ _
theorem skipAt_drop {l : List UInt8} {i : Nat} : l.drop (skipAt l i) = skip (l.drop i) := by
 have hs : skip (l.drop i) <:+ l := (skip_suf _).trans (List.drop_suffix _ _)
 exact (List.suffix_iff_eq_drop.1 hs).symm
set_option maxRecDepth 100000 in
set_option maxHeartbeats 8000000 in
theorem rblanks_any {w : World} {l : List UInt8} {i : Nat} (hl : l.length < 100000) (hi : i ≤ l.length) :
   Calls Tryz.prog 23 #[.string (txt l), .int .i64 i] w fun e w' => e = .returned (.int .i64 (skipAt l i)) ∧ w' = w := by
 have hs := txt_size l
 go_enter Tryz.func23, Tryz.ntmps23
 go_wp2_with fail
 go_loopw [1] (fun a wr => ∃ q : Nat, a = .int .i64 q ∧ wr = w ∧ q ≤ l.length ∧ skip (l.drop i) = skip (l.drop q)) (fun a _ => l.length - (intOf a).toNat)
 case atStart => exact ⟨i, rfl, rfl, hi, rfl⟩
 case round =>
   obtain ⟨q, rfl, rfl, hq, hk⟩ := hrel
   have hwq : IntKind.i64.wrap ((q : Int) + 1) = (q : Int) + 1 := by simp only [IntKind.wrap, IntKind.signed, IntKind.bits]; simp; omega
   by_cases hlt : q < l.length
   · have hlt1 : decide (q < l.length) = true := decide_eq_true hlt
     have hlt' : (q : Int) < (l.length : Int) := by omega
     have hix := idx hlt
     have on := fun h => skip_on (l := l) (q := q) hlt h
     have off := fun h => skip_stop (l := l) (q := q) h
     generalize nb l q = x at *
     by_cases hb : x = 9 ∨ x = 10 ∨ x = 13 ∨ x = 32
     · have HK := Lib.hid (hk.trans (on hb))
       clear on off hk
       rcases hb with rfl | rfl | rfl | rfl
       all_goals
         go_wp2_with fail
         go_roundw
         case rel => exact ⟨q + 1, by go_num, by first | rfl | assumption | simp, by omega, HK.out⟩
         case measure => simp [intOf]; omega
     · have h9 : ((x : Int) == 9) = false := by simp; omega
       have h10 : ((x : Int) == 10) = false := by simp; omega
       have h13 : ((x : Int) == 13) = false := by simp; omega
       have h32 : ((x : Int) == 32) = false := by simp; omega
       have hk' := hk.trans (off (by omega))
       have : skipAt l i = q := by unfold skipAt; rw [hk', List.length_drop]; omega
       have HC := Lib.hid this
       clear on off hk hk' this hb
       go_wp2_with fail
       exact bodyPost_ret (v := .int .i64 q) (by simp [results, Tryz.results23, go_sem, *]) rfl ⟨by rw [HC.out], rfl⟩
   · have hlt1 : decide (q < l.length) = false := decide_eq_false hlt
     have hk' := hk.trans (skip_stop (by rw [nb_past (by omega)]; omega))
     have : skipAt l i = q := by unfold skipAt; rw [hk', List.length_drop]; omega
     have HC := Lib.hid this
     clear hk hk' this
     go_wp2_with fail
     exact bodyPost_ret (v := .int .i64 q) (by simp [results, Tryz.results23, go_sem, *]) rfl ⟨by rw [HC.out], rfl⟩
end Go.Proofs.YtlfbnfphocpgeaaGreatDoor.Jdec
namespace Go.Proofs.YtlfbnfphocpgeaaGreatDoor.Quo
open Go.RowKit Kit Txt Utf
def Rdr (R : Nat) (l : List UInt8) (w : World) : Prop := w.heap[R]? = some (.cells #[.string (txt l)] 126 (0, 0))
def rp (R : Nat) : Value := .pointer (some ⟨R, 0, none⟩)
def thrown (k : Nat) : Ending := .panicked [{ v := .iface 33 (.int .i64 k), recovered := false }]
theorem Rdr.took {R : Nat} {l m : List UInt8} {w : World} (h : Rdr R l w) : Rdr R m (w.setCell ⟨R, 0, none⟩ (.string (txt m))) := set_of h 0 _
theorem Rdr.below {R : Nat} {l : List UInt8} {w w' : World} {B : Nat} (h : Rdr R l w) (k : Below B w w') (hr : R < B) : Rdr R l w' := (k.block R hr).trans h
theorem grownBy.trans {a b c : World} {row : Option Nat} (h : a.grownBy b row) (k : b.grownBy c row) : a.grownBy c row :=
 ⟨k.os.trans h.os, k.tape.trans h.tape, k.output.trans h.output, Nat.le_trans h.size k.size, fun i hi hr => (k.block i (Nat.lt_of_lt_of_le hi h.size) hr).trans (h.block i hi hr)⟩
theorem idx0 (c : UInt8) (r : List UInt8) (wx : World) : (Instr.index 9 (.string (txt (c :: r))) (.int .i64 0)).run Tryz.prog wx = .ok (.int .u8 (c.toNat : Int)) wx := by
 have h := idx (l := c :: r) (i := 0) (by simp) wx
 rwa [nb_get (by simp)] at h
theorem sl1 (c : UInt8) (r : List UInt8) (wx : World) : (Instr.slice 9 (.string (txt (c :: r))) (some (.int .i64 1)) none none).run Tryz.prog wx = .ok (.string (txt r)) wx := slL (l := c :: r) (k := 1) rfl (by simp) wx
set_option maxRecDepth 100000 in
set_option maxHeartbeats 1000000 in
theorem next_cons {w : World} {R : Nat} {c : UInt8} {r : List UInt8} (h : Rdr R (c :: r) w) :
   Calls Tryz.prog 125 #[rp R] w fun e w' => e = .returned (.int .u8 (c.toNat : Int)) ∧ Rdr R r w' ∧ w.grownBy w' (some R) := by
 have hc := cell_of h 0
 have hf := free_of h 0
 have he : (txt (c :: r)).toList.isEmpty = false := by unfold txt; rw [ByteArray.toList_mk]; rfl
 have hi := idx0 c r
 have hs := sl1 c r
 unfold rp
 have hw : Rdr R r (w.setCell ⟨R, 0, none⟩ (.string (txt r))) ∧ w.grownBy (w.setCell ⟨R, 0, none⟩ (.string (txt r))) (some R) := ⟨h.took, grownBy_setCell' _ _ _⟩
 have hW := Lib.hid hw
 clear hw h
 go_enter Tryz.func125, Tryz.ntmps125
 go_wp2_with fail
 go_ret
 exact ⟨rfl, hW.out⟩
set_option maxRecDepth 100000 in
set_option maxHeartbeats 1000000 in
theorem next_nil {w : World} {R : Nat} (h : Rdr R [] w) : Calls Tryz.prog 125 #[rp R] w fun e w' => e = thrown 2 ∧ w' = w := by
 have hc := cell_of h 0
 have he : (txt []).toList = [] := by unfold txt; rw [ByteArray.toList_mk]
 unfold rp thrown
 go_enter Tryz.func125, Tryz.ntmps125
 go_wp2_with fail
 exact ⟨rfl, rfl, rfl⟩
def Takes (R : Nat) (w : World) (k : Nat) (v : Value) (rest : List UInt8) (e : Ending) (w' : World) : Prop := w.grownBy w' (some R) ∧ ((k = 0 ∧ e = .returned v ∧ Rdr R rest w') ∨ (k ≠ 0 ∧ e = thrown k))
theorem Takes.mk {R : Nat} {w : World} {v : Value} {rest : List UInt8} {w' : World} (h : Rdr R rest w') (g : w.grownBy w' (some R)) : Takes R w 0 v rest (.returned v) w' := ⟨g, .inl ⟨rfl, rfl, h⟩⟩
theorem Takes.no {R : Nat} {w : World} {k : Nat} {v : Value} {rest : List UInt8} {w' : World} (h : k ≠ 0) (g : w.grownBy w' (some R)) : Takes R w k v rest (thrown k) w' := ⟨g, .inr ⟨h, rfl⟩⟩
def wantE (c : UInt8) (l : List UInt8) : Nat := match l with
 | [] => 2
 | d :: _ => if d = c then 0 else 3
set_option maxRecDepth 100000 in
set_option maxHeartbeats 1000000 in
theorem mwant_any {w : World} {R : Nat} {c : UInt8} {l : List UInt8} {x : Int} (h : Rdr R l w) (hx : x = (c.toNat : Int)) :
   Calls Tryz.prog 123 #[rp R, .int .u8 x] w fun e w' => Takes R w (wantE c l) (.tuple #[]) l.tail e w' := by
 cases l with
 | nil =>
   have hn := next_nil h
   unfold rp at *
   go_enter Tryz.func123, Tryz.ntmps123
   go_wp2_with fail
   refine hn.mono ?_
   rintro e w1 ⟨rfl, rfl⟩
   exact ⟨rfl, .no (Nat.succ_ne_zero 1) (World.grownBy.refl _ _)⟩
 | cons d r =>
   have hn := next_cons h
   unfold rp at *
   by_cases hd : d = c
   · have e1 : ((d.toNat : Int) != x) = false := by rw [hx, hd]; simp
     have e0 : wantE c (d :: r) = 0 := if_pos hd
     rw [e0]
     clear hd hx e0
     go_enter Tryz.func123, Tryz.ntmps123
     go_wp2_with fail
     refine hn.mono ?_
     rintro e w1 ⟨rfl, k1, k2⟩
     go_wp2_with fail
     go_end0
     exact .mk k1 k2
   · have e1 : ((d.toNat : Int) != x) = true := by
       rw [hx]
       simp
       intro e
       exact hd (UInt8.toNat_inj.1 (by omega))
     have e0 : wantE c (d :: r) = 3 := if_neg hd
     rw [e0]
     clear hd hx e0
     go_enter Tryz.func123, Tryz.ntmps123
     go_wp2_with fail
     refine hn.mono ?_
     rintro e w1 ⟨rfl, k1, k2⟩
     go_wp2_with fail
     exact ⟨rfl, .no (by decide) k2⟩
def digE (l : List UInt8) : Nat := match l with
 | [] => 2
 | c :: _ => match hexV c with
   | none => 3
   | some _ => 0
def digV (l : List UInt8) : Nat := match l with
 | [] => 0
 | c :: _ => (hexV c).getD 0
set_option maxRecDepth 100000 in
set_option maxHeartbeats 1000000 in
theorem mdigit_any {w : World} {R : Nat} {l : List UInt8} (h : Rdr R l w) :
   Calls Tryz.prog 202 #[rp R] w fun e w' => Takes R w (digE l) (.int .i64 (digV l : Int)) l.tail e w' := by
 cases l with
 | nil =>
   have hn := next_nil h
   unfold rp at *
   go_enter Tryz.func202, Tryz.ntmps202
   go_wp2_with fail
   refine hn.mono ?_
   rintro e w1 ⟨rfl, rfl⟩
   exact ⟨rfl, .no (by decide) (World.grownBy.refl _ _)⟩
 | cons c r =>
   have hn := next_cons h
   unfold rp at *
   have hlt : c.toNat < 256 := c.toNat_lt
   have hc := hexI_cases c
   have hE : (hexV c = none ∧ hexI c = -1 ∧ digE (c :: r) = 3) ∨ (∃ d, hexV c = some d ∧ hexI c = d ∧ digE (c :: r) = 0 ∧ digV (c :: r) = d) := by
     cases hv : hexV c with
     | none => exact .inl ⟨rfl, hexI_none hv, by unfold digE; dsimp only; rw [hv]⟩
     | some d => exact .inr ⟨d, rfl, (hexI_some hv).1, by unfold digE; dsimp only; rw [hv], by unfold digV; dsimp only; rw [hv]; rfl⟩
   rw [List.tail_cons]
   generalize digE (c :: r) = ee at *
   generalize digV (c :: r) = dd at *
   generalize c.toNat = x at *
   have w1 : 48 ≤ x → IntKind.u8.wrap ((x : Int) - 48) = (x : Int) - 48 := fun h => by simp only [IntKind.wrap, IntKind.signed, IntKind.bits]; simp; omega
   have w2 : 97 ≤ x → IntKind.u8.wrap ((x : Int) - 97) = (x : Int) - 97 := fun h => by simp only [IntKind.wrap, IntKind.signed, IntKind.bits]; simp; omega
   have w3 : 65 ≤ x → IntKind.u8.wrap ((x : Int) - 65) = (x : Int) - 65 := fun h => by simp only [IntKind.wrap, IntKind.signed, IntKind.bits]; simp; omega
   rcases hc with ⟨h1, h2, h3⟩ | ⟨h1, h2, h3⟩ | ⟨h1, h2, h3⟩ | ⟨h1, h2, h3, h4⟩
   · rcases hE with ⟨_, k, _⟩ | ⟨d, -, k, rfl, rfl⟩
     · exfalso; omega
     have e : (dd : Int) = (x : Int) - 48 := by omega
     rw [e]
     have w1 := w1 h1
     have d1 : (48 : Int) ≤ (x : Int) := by omega
     have d2 : (x : Int) ≤ 57 := by omega
     clear h3 w2 w3 k e
     go_enter Tryz.func202, Tryz.ntmps202
     go_wp2_with fail
     refine hn.mono ?_
     rintro e w1 ⟨rfl, k1, k2⟩
     go_wp2_with fail
     go_ret
     exact .mk k1 k2
   · rcases hE with ⟨_, k, _⟩ | ⟨d, -, k, rfl, rfl⟩
     · exfalso; omega
     have e : (dd : Int) = (x : Int) - 97 + 10 := by omega
     rw [e]
     have w2 := w2 h1
     have d0 : decide ((x : Int) ≤ 57) = false := by simp; omega
     have d3 : (48 : Int) ≤ (x : Int) := by omega
     have d1 : (97 : Int) ≤ (x : Int) := by omega
     have d2 : (x : Int) ≤ 102 := by omega
     have w4 : IntKind.i64.wrap ((x : Int) - 97 + 10) = (x : Int) - 97 + 10 := by simp only [IntKind.wrap, IntKind.signed, IntKind.bits]; simp; omega
     clear h3 w1 w3 k e
     go_enter Tryz.func202, Tryz.ntmps202
     go_wp2_with fail
     refine hn.mono ?_
     rintro e w1 ⟨rfl, k1, k2⟩
     go_wp2_with fail
     go_ret
     exact .mk k1 k2
   · rcases hE with ⟨_, k, _⟩ | ⟨d, -, k, rfl, rfl⟩
     · exfalso; omega
     have e : (dd : Int) = (x : Int) - 65 + 10 := by omega
     rw [e]
     have w3 := w3 h1
     have d0 : decide ((x : Int) ≤ 57) = false := by simp; omega
     have d3 : (48 : Int) ≤ (x : Int) := by omega
     have d4 : decide ((97 : Int) ≤ (x : Int)) = false := by simp; omega
     have d1 : (65 : Int) ≤ (x : Int) := by omega
     have d2 : (x : Int) ≤ 70 := by omega
     have w4 : IntKind.i64.wrap ((x : Int) - 65 + 10) = (x : Int) - 65 + 10 := by simp only [IntKind.wrap, IntKind.signed, IntKind.bits]; simp; omega
     clear h3 w1 w2 k e
     go_enter Tryz.func202, Tryz.ntmps202
     go_wp2_with fail
     refine hn.mono ?_
     rintro e w1 ⟨rfl, k1, k2⟩
     go_wp2_with fail
     go_ret
     exact .mk k1 k2
   · rcases hE with ⟨-, -, rfl⟩ | ⟨d, -, k, -, -⟩
     case inr => exfalso; omega
     clear w1 w2 w3 h4
     by_cases a1 : x < 48
     · have d1 : decide ((48 : Int) ≤ (x : Int)) = false := by simp; omega
       have d2 : decide ((97 : Int) ≤ (x : Int)) = false := by simp; omega
       have d3 : decide ((65 : Int) ≤ (x : Int)) = false := by simp; omega
       go_enter Tryz.func202, Tryz.ntmps202
       go_wp2_with fail
       refine hn.mono ?_
       rintro e w1 ⟨rfl, k1, k2⟩
       go_wp2_with fail
       exact ⟨rfl, .no (by decide) k2⟩
     by_cases a2 : x < 65
     · have d1 : (48 : Int) ≤ (x : Int) := by omega
       have d4 : decide ((x : Int) ≤ 57) = false := by simp; omega
       have d2 : decide ((97 : Int) ≤ (x : Int)) = false := by simp; omega
       have d3 : decide ((65 : Int) ≤ (x : Int)) = false := by simp; omega
       go_enter Tryz.func202, Tryz.ntmps202
       go_wp2_with fail
       refine hn.mono ?_
       rintro e w1 ⟨rfl, k1, k2⟩
       go_wp2_with fail
       exact ⟨rfl, .no (by decide) k2⟩
     by_cases a3 : x < 97
     · have d1 : (48 : Int) ≤ (x : Int) := by omega
       have d4 : decide ((x : Int) ≤ 57) = false := by simp; omega
       have d2 : decide ((97 : Int) ≤ (x : Int)) = false := by simp; omega
       have d3 : (65 : Int) ≤ (x : Int) := by omega
       have d5 : decide ((x : Int) ≤ 70) = false := by simp; omega
       go_enter Tryz.func202, Tryz.ntmps202
       go_wp2_with fail
       refine hn.mono ?_
       rintro e w1 ⟨rfl, k1, k2⟩
       go_wp2_with fail
       exact ⟨rfl, .no (by decide) k2⟩
     · have d1 : (48 : Int) ≤ (x : Int) := by omega
       have d4 : decide ((x : Int) ≤ 57) = false := by simp; omega
       have d2 : (97 : Int) ≤ (x : Int) := by omega
       have d6 : decide ((x : Int) ≤ 102) = false := by simp; omega
       have d3 : (65 : Int) ≤ (x : Int) := by omega
       have d5 : decide ((x : Int) ≤ 70) = false := by simp; omega
       go_enter Tryz.func202, Tryz.ntmps202
       go_wp2_with fail
       refine hn.mono ?_
       rintro e w1 ⟨rfl, k1, k2⟩
       go_wp2_with fail
       exact ⟨rfl, .no (by decide) k2⟩
end Go.Proofs.YtlfbnfphocpgeaaGreatDoor.Quo
