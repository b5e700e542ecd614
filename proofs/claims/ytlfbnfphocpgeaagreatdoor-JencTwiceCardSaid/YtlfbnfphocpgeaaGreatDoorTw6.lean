/- A part of what twice_holds leans on (its texts, put together). Nothing is claimed here. -/
import Derived.BigQuiet
import Derived.Lib.Hide
import Derived.Test.YtlfbnfphocpgeaaGreatDoorTw5
namespace Go.Proofs.YtlfbnfphocpgeaaGreatDoor.Jdec
open Go.RowKit Kit Txt
open Utf (nb)
def Rdr (R : Nat) (s : List UInt8) (q : Nat) (o : Int) (u : Value) (w : World) : Prop := w.heap[R]? = some (.cells #[.string (txt s), .int .i64 q, .int .i64 o, u] 55 (0, 0))
def rp (R : Nat) : Value := .pointer (some ⟨R, 0, none⟩)
theorem Rdr.goes {R : Nat} {s : List UInt8} {q : Nat} {o : Int} {u : Value} {w : World} (h : Rdr R s q o u w) (q' : Nat) : Rdr R s q' o u (w.setCell ⟨R, 1, none⟩ (.int .i64 q')) := set_of h 1 _
theorem Rdr.opens {R : Nat} {s : List UInt8} {q : Nat} {o : Int} {u : Value} {w : World} (h : Rdr R s q o u w) (o' : Int) : Rdr R s q o' u (w.setCell ⟨R, 2, none⟩ (.int .i64 o')) := set_of h 2 _
theorem Rdr.kept {R : Nat} {s : List UInt8} {q : Nat} {o : Int} {u : Value} {w w' : World} {row : Option Nat} (h : Rdr R s q o u w) (k : w.grownBy w' row) (hr : some R ≠ row) : Rdr R s q o u w' := (k.block R (lt_of_heap h) hr).trans h
theorem Rdr.below {R : Nat} {s : List UInt8} {q : Nat} {o : Int} {u : Value} {w w' : World} (h : Rdr R s q o u w) (k : Below w.heap.size w w') : Rdr R s q o u w' := (k.block R (lt_of_heap h)).trans h
theorem four {W : World} {g : Nat} {a b c d : Value} {t : TypeId} {fr : Nat × Nat} (h : W.heap[g]? = some (.cells #[a, b, c, d] t fr)) : W.cell? ⟨g, 0, none⟩ = some a ∧ W.cell? ⟨g, 1, none⟩ = some b ∧ W.cell? ⟨g, 2, none⟩ = some c ∧ W.cell? ⟨g, 3, none⟩ = some d :=
  ⟨cell_of h 0, cell_of h 1, cell_of h 2, cell_of h 3⟩
theorem grown_trans {a b c : World} {row : Option Nat} (h : a.grownBy b row) (k : b.grownBy c row) : a.grownBy c row :=
  ⟨k.os.trans h.os, k.tape.trans h.tape, k.output.trans h.output, Nat.le_trans h.size k.size, fun i hi hr => (k.block i (Nat.lt_of_lt_of_le hi h.size) hr).trans (h.block i hi hr)⟩
theorem grown_below {a b c : World} {row : Option Nat} (h : a.grownBy b row) (k : Below b.heap.size b c) : a.grownBy c row :=
  ⟨k.os.trans h.os, k.tape.trans h.tape, k.output.trans h.output, Nat.le_trans h.size k.size, fun i hi hr => (k.block i (Nat.lt_of_lt_of_le hi h.size)).trans (h.block i hi hr)⟩
theorem grown_cell (w : World) (b i : Nat) (v : Value) : w.grownBy (w.setCell ⟨b, i, none⟩ v) (some b) :=
  ⟨rfl, rfl, rfl, (KeepsWalks.setCell w _ v).size, fun k _ hk => Below.heap_setCell _ _ _ k (fun e => hk (by rw [e]))⟩
theorem drew_below (w : World) : Below w.heap.size w w.drew := below_drewN (Below.refl _ w) 1
theorem store8 {W : World} {g : Nat} {z0 z1 z2 z3 z4 z5 z6 z7 : Value} {t : TypeId} {fr : Nat × Nat} (h : W.heap[g]? = some (.cells #[z0, z1, z2, z3, z4, z5, z6, z7] t fr)) (a0 a1 a2 a3 a4 a5 a6 a7 : Value) :
    ((((((((W.setCell ⟨g, 0, none⟩ a0).setCell ⟨g, 1, none⟩ a1).setCell ⟨g, 2, none⟩ a2).setCell ⟨g, 3, none⟩ a3).setCell ⟨g, 4, none⟩ a4).setCell ⟨g, 5, none⟩ a5).setCell ⟨g, 6, none⟩ a6).setCell ⟨g, 7, none⟩ a7).heap[g]? = some (.cells #[a0, a1, a2, a3, a4, a5, a6, a7] t fr) := by
  have := set_of (set_of (set_of (set_of (set_of (set_of (set_of (set_of h 0 a0) 1 a1) 2 a2) 3 a3) 4 a4) 5 a5) 6 a6) 7 a7
  simpa using this
theorem grown8 (W : World) (g : Nat) (a0 a1 a2 a3 a4 a5 a6 a7 : Value) : W.grownBy ((((((((W.setCell ⟨g, 0, none⟩ a0).setCell ⟨g, 1, none⟩ a1).setCell ⟨g, 2, none⟩ a2).setCell ⟨g, 3, none⟩ a3).setCell ⟨g, 4, none⟩ a4).setCell ⟨g, 5, none⟩ a5).setCell ⟨g, 6, none⟩ a6).setCell ⟨g, 7, none⟩ a7) (some g) :=
  grown_trans (grown_trans (grown_trans (grown_trans (grown_trans (grown_trans (grown_trans (grown_cell _ g 0 _) (grown_cell _ g 1 _)) (grown_cell _ g 2 _)) (grown_cell _ g 3 _)) (grown_cell _ g 4 _)) (grown_cell _ g 5 _)) (grown_cell _ g 6 _)) (grown_cell _ g 7 _)
theorem grown_on {a b c : World} {row : Option Nat} {g : Nat} (h : a.grownBy b row) (k : b.grownBy c (some g)) (hg : a.heap.size ≤ g) : a.grownBy c row :=
  ⟨k.os.trans h.os, k.tape.trans h.tape, k.output.trans h.output, Nat.le_trans h.size k.size, fun i hi hr => (k.block i (Nat.lt_of_lt_of_le hi h.size) (fun e => by cases e; omega)).trans (h.block i hi hr)⟩
theorem grown_alloc {a b : World} {row : Option Nat} (h : a.grownBy b row) (o : Obj) : a.grownBy (b.alloc o) row := grown_below h ((Below.refl _ b).alloc (Nat.le_refl _) o)
theorem kept_of {w w' : World} {R g : Nat} {o : Obj} (h : w.heap[g]? = some o) (k : w.grownBy w' (some R)) (hne : g ≠ R) : w'.heap[g]? = some o := (k.block g (lt_of_heap h) (fun e => hne (by cases e; rfl))).trans h
theorem eight {W : World} {g : Nat} {a b c d e f x y : Value} {t : TypeId} {fr : Nat × Nat} (h : W.heap[g]? = some (.cells #[a, b, c, d, e, f, x, y] t fr)) :
    W.cell? ⟨g, 0, none⟩ = some a ∧ W.cell? ⟨g, 1, none⟩ = some b ∧ W.cell? ⟨g, 2, none⟩ = some c ∧ W.cell? ⟨g, 3, none⟩ = some d ∧ W.cell? ⟨g, 4, none⟩ = some e ∧ W.cell? ⟨g, 5, none⟩ = some f ∧ W.cell? ⟨g, 6, none⟩ = some x ∧ W.cell? ⟨g, 7, none⟩ = some y :=
  ⟨cell_of h 0, cell_of h 1, cell_of h 2, cell_of h 3, cell_of h 4, cell_of h 5, cell_of h 6, cell_of h 7⟩
theorem free8 {W : World} {g : Nat} {a b c d e f x y : Value} {t : TypeId} (h : W.heap[g]? = some (.cells #[a, b, c, d, e, f, x, y] t (0, 0))) :
    W.frozen? ⟨g, 0, none⟩ = false ∧ W.frozen? ⟨g, 1, none⟩ = false ∧ W.frozen? ⟨g, 2, none⟩ = false ∧ W.frozen? ⟨g, 3, none⟩ = false ∧ W.frozen? ⟨g, 4, none⟩ = false ∧ W.frozen? ⟨g, 5, none⟩ = false ∧ W.frozen? ⟨g, 6, none⟩ = false ∧ W.frozen? ⟨g, 7, none⟩ = false :=
  ⟨free_of h 0, free_of h 1, free_of h 2, free_of h 3, free_of h 4, free_of h 5, free_of h 6, free_of h 7⟩
def nextIs (c : UInt8) (l : List UInt8) : Bool := decide (l.head? = some c)
theorem next_at {c : UInt8} {l : List UInt8} {q : Nat} (h : q < l.length) : nextIs c (l.drop q) = decide (nb l q = c.toNat) := by
  unfold nextIs
  rw [List.drop_eq_getElem_cons h, nb_get h]
  rw [decide_eq_decide]
  exact ⟨fun e => by injection e with e; rw [e], fun e => by rw [List.head?_cons, UInt8.toNat_inj.1 e]⟩
theorem next_past {c : UInt8} {l : List UInt8} {q : Nat} (h : l.length ≤ q) : nextIs c (l.drop q) = false := by
  unfold nextIs
  rw [List.drop_eq_nil_of_le h]
  rfl
set_option maxRecDepth 100000 in
set_option maxHeartbeats 4000000 in
theorem has_any {w : World} {R : Nat} {s : List UInt8} {q : Nat} {o : Int} {u : Value} {c : UInt8} {x : Int} (_hs : s.length < 100000) (h : Rdr R s q o u w) (hx : x = (c.toNat : Int)) :
    Calls Tryz.prog 89 #[rp R, .int .u8 x] w fun e w' => e = .returned (.bool (nextIs c (s.drop q))) ∧ Below w.heap.size w w' := by
  subst hx
  obtain ⟨c0, c1, c2, c3⟩ := four h
  have hz := txt_size s
  unfold rp
  by_cases hq : q < s.length
  · have hlt1 : decide (q < s.length) = true := decide_eq_true hq
    have hlt' : (q : Int) < (s.length : Int) := by omega
    have hix := idx hq
    have hn := next_at (c := c) hq
    by_cases hc : nb s q = c.toNat
    · rw [decide_eq_true hc] at hn
      rw [hc] at hix
      rw [hn]
      clear hn hc h
      go_enter Tryz.func89, Tryz.ntmps89
      go_wp2_with fail
      go_quiet (fail)
      go_wp2_with fail
      go_ret
      exact ⟨rfl, below_drewN (Below.refl _ _) _⟩
    · rw [decide_eq_false hc] at hn
      rw [hn]
      have hne : (((nb s q : Nat) : Int) == ((c.toNat : Nat) : Int)) = false := by simp; omega
      generalize nb s q = y at *
      generalize c.toNat = z at *
      clear hn hc h
      go_enter Tryz.func89, Tryz.ntmps89
      go_wp2_with fail
      go_quiet (fail)
      go_wp2_with fail
      go_ret
      exact ⟨rfl, below_drewN (Below.refl _ _) _⟩
  · have hlt1 : decide (q < s.length) = false := decide_eq_false hq
    have hn := next_past (c := c) (l := s) (q := q) (by omega)
    rw [hn]
    clear hn h
    go_enter Tryz.func89, Tryz.ntmps89
    go_wp2_with fail
    go_quiet (fail)
    go_wp2_with fail
    go_ret
    exact ⟨rfl, below_drewN (Below.refl _ _) _⟩
def wantE (c : UInt8) (l : List UInt8) : Nat := match l with
  | [] => 2
  | d :: _ => if d = c then 0 else 3
def wantQ (c : UInt8) (l : List UInt8) (q : Nat) : Nat := if wantE c l = 0 then q + 1 else q
theorem want_at {c : UInt8} {l : List UInt8} {q : Nat} (h : q < l.length) : wantE c (l.drop q) = if nb l q = c.toNat then 0 else 3 := by
  rw [List.drop_eq_getElem_cons h, nb_get h]
  show (if l[q] = c then 0 else 3) = _
  have e : (l[q] = c ↔ l[q].toNat = c.toNat) := ⟨fun e => by rw [e], fun e => UInt8.toNat_inj.1 e⟩
  simp only [e]
theorem want_past {c : UInt8} {l : List UInt8} {q : Nat} (h : l.length ≤ q) : wantE c (l.drop q) = 2 := by
  rw [List.drop_eq_nil_of_le h]
  rfl
set_option maxRecDepth 100000 in
set_option maxHeartbeats 4000000 in
theorem want_any {w : World} {R : Nat} {s : List UInt8} {q : Nat} {o : Int} {u : Value} {c : UInt8} {x : Int} (hs : s.length < 100000) (hq : q ≤ s.length) (h : Rdr R s q o u w) (hx : x = (c.toNat : Int)) :
    Calls Tryz.prog 90 #[rp R, .int .u8 x] w fun e w' => e = .returned (.int .i64 (wantE c (s.drop q))) ∧ Rdr R s (wantQ c (s.drop q) q) o u w' ∧ w.grownBy w' (some R) := by
  subst hx
  obtain ⟨c0, c1, c2, c3⟩ := four h
  have hz := txt_size s
  have hf := free_of h 1
  have hR := lt_of_heap h
  unfold rp wantQ
  have hB := fun (n : Nat) => (show Rdr R s q o u (w.drewN n) from h)
  have hG := fun (n : Nat) => (show w.grownBy (w.drewN n) (some R) from ⟨rfl, rfl, rfl, Nat.le_refl _, fun _ _ _ => rfl⟩)
  by_cases hq2 : q < s.length
  · have heq : ((q : Int) == (s.length : Int)) = false := by simp; omega
    have hlt' : (q : Int) < (s.length : Int) := by omega
    have hwq : IntKind.i64.wrap ((q : Int) + 1) = (q : Int) + 1 := by simp only [IntKind.wrap, IntKind.signed, IntKind.bits]; simp; omega
    have hix := idx hq2
    have hn := want_at (c := c) hq2
    by_cases hc : nb s q = c.toNat
    · rw [if_pos hc] at hn
      rw [hn]
      rw [hc] at hix
      have hne : (((c.toNat : Nat) : Int) != ((c.toNat : Nat) : Int)) = false := by simp
      have fin : ∀ wx, Rdr R s q o u wx → w.grownBy wx (some R) → Rdr R s (q + 1) o u (wx.setCell ⟨R, 1, none⟩ (.int .i64 ((q : Int) + 1))) ∧ w.grownBy (wx.setCell ⟨R, 1, none⟩ (.int .i64 ((q : Int) + 1))) (some R) := fun wx h1 h2 => ⟨h1.goes (q + 1), grown_trans h2 (grown_cell _ _ _ _)⟩
      have HF := Lib.hid fin
      have HB := Lib.hid hB
      have HG := Lib.hid hG
      clear hn hc h fin hB hG
      go_enter Tryz.func90, Tryz.ntmps90
      go_wp2_with fail
      go_quiet (fail)
      go_wp2_with fail
      go_quiet (fail)
      go_wp2_with fail
      go_ret
      exact ⟨rfl, HF.out _ (HB.out _) (HG.out _)⟩
    · rw [if_neg hc] at hn
      rw [hn]
      have hne : (((nb s q : Nat) : Int) != ((c.toNat : Nat) : Int)) = true := by simp; omega
      generalize nb s q = y at *
      generalize c.toNat = z at *
      have HB := Lib.hid hB
      have HG := Lib.hid hG
      clear hn hc h hB hG
      go_enter Tryz.func90, Tryz.ntmps90
      go_wp2_with fail
      go_quiet (fail)
      go_wp2_with fail
      go_quiet (fail)
      go_wp2_with fail
      go_ret
      exact ⟨rfl, HB.out _, HG.out _⟩
  · have heq : ((q : Int) == (s.length : Int)) = true := by simp; omega
    have hn := want_past (c := c) (l := s) (q := q) (by omega)
    rw [hn]
    have HB := Lib.hid hB
    have HG := Lib.hid hG
    clear hn h hB hG
    go_enter Tryz.func90, Tryz.ntmps90
    go_wp2_with fail
    go_quiet (fail)
    go_wp2_with fail
    go_ret
    exact ⟨rfl, HB.out _, HG.out _⟩
end Go.Proofs.YtlfbnfphocpgeaaGreatDoor.Jdec
namespace Go.Proofs.YtlfbnfphocpgeaaGreatDoor.Jdec
open Go.RowKit Kit Txt
open Utf (nb)
def skipAt (l : List UInt8) (i : Nat) : Nat := l.length - (skip (l.drop i)).length
theorem skip_on {l : List UInt8} {q : Nat} (h : q < l.length) (hb : nb l q = 9 ∨ nb l q = 10 ∨ nb l q = 13 ∨ nb l q = 32) : skip (l.drop q) = skip (l.drop (q + 1)) := by
  rw [nb_get h] at hb
  have : blank l[q] = true := by
    unfold blank
    rw [decide_eq_true_eq]
    rcases hb with hb | hb | hb | hb
    · exact .inl (UInt8.toNat_inj.1 hb)
    · exact .inr (.inl (UInt8.toNat_inj.1 hb))
    · exact .inr (.inr (.inl (UInt8.toNat_inj.1 hb)))
    · exact .inr (.inr (.inr (UInt8.toNat_inj.1 hb)))
  unfold skip
  rw [List.drop_eq_getElem_cons h, List.dropWhile_cons, if_pos this]
theorem skip_stop {l : List UInt8} {q : Nat} (hb : nb l q ≠ 9 ∧ nb l q ≠ 10 ∧ nb l q ≠ 13 ∧ nb l q ≠ 32) : skip (l.drop q) = l.drop q := by
  by_cases h : q < l.length
  · rw [nb_get h] at hb
    have : blank l[q] = false := by
      unfold blank
      rw [decide_eq_false_iff_not]
      rintro (e | e | e | e) <;> (rw [e] at hb; revert hb; decide)
    unfold skip
    rw [List.drop_eq_getElem_cons h, List.dropWhile_cons, if_neg (by rw [this]; decide)]
  · rw [List.drop_eq_nil_of_le (by omega)]
    rfl
theorem skipAt_le (l : List UInt8) (i : Nat) : skipAt l i ≤ l.length := Nat.sub_le _ _
theorem skipAt_drop {l : List UInt8} {i : Nat} : l.drop (skipAt l i) = skip (l.drop i) := by
  have hs : skip (l.drop i) <:+ l := (skip_suf _).trans (List.drop_suffix _ _)
  exact (List.suffix_iff_eq_drop.1 hs).symm
set_option maxRecDepth 100000 in
set_option maxHeartbeats 8000000 in
theorem rblanks_any {w : World} {l : List UInt8} {i : Nat} (hl : l.length < 100000) (hi : i ≤ l.length) :
    Calls Tryz.prog 23 #[.string (txt l), .int .i64 i] w fun e w' => e = .returned (.int .i64 (skipAt l i)) ∧ w' = w := by
  have hs := txt_size l
  go_enter Tryz.func23, Tryz.ntmps23
  go_wp2_with fail
  go_loopw [1] (fun a wr => ∃ q : Nat, a = .int .i64 q ∧ wr = w ∧ q ≤ l.length ∧ skip (l.drop i) = skip (l.drop q)) (fun a _ => l.length - (intOf a).toNat)
  case atStart => exact ⟨i, rfl, rfl, hi, rfl⟩
  case round =>
    obtain ⟨q, rfl, rfl, hq, hk⟩ := hrel
    have hwq : IntKind.i64.wrap ((q : Int) + 1) = (q : Int) + 1 := by simp only [IntKind.wrap, IntKind.signed, IntKind.bits]; simp; omega
    by_cases hlt : q < l.length
    · have hlt1 : decide (q < l.length) = true := decide_eq_true hlt
      have hlt' : (q : Int) < (l.length : Int) := by omega
      have hix := idx hlt
      have on := fun h => skip_on (l := l) (q := q) hlt h
      have off := fun h => skip_stop (l := l) (q := q) h
      generalize nb l q = x at *
      by_cases hb : x = 9 ∨ x = 10 ∨ x = 13 ∨ x = 32
      · have HK := Lib.hid (hk.trans (on hb))
        clear on off hk
        rcases hb with rfl | rfl | rfl | rfl
        all_goals
          go_wp2_with fail
          go_roundw
          case rel => exact ⟨q + 1, by go_num, by first | rfl | assumption | simp, by omega, HK.out⟩
          case measure => simp [intOf]; omega
      · have h9 : ((x : Int) == 9) = false := by simp; omega
        have h10 : ((x : Int) == 10) = false := by simp; omega
        have h13 : ((x : Int) == 13) = false := by simp; omega
        have h32 : ((x : Int) == 32) = false := by simp; omega
        have hk' := hk.trans (off (by omega))
        have : skipAt l i = q := by unfold skipAt; rw [hk', List.length_drop]; omega
        have HC := Lib.hid this
        clear on off hk hk' this hb
        go_wp2_with fail
        exact bodyPost_ret (v := .int .i64 q) (by simp [results, Tryz.results23, go_sem, *]) rfl ⟨by rw [HC.out], rfl⟩
    · have hlt1 : decide (q < l.length) = false := decide_eq_false hlt
      have hk' := hk.trans (skip_stop (by rw [nb_past (by omega)]; omega))
      have : skipAt l i = q := by unfold skipAt; rw [hk', List.length_drop]; omega
      have HC := Lib.hid this
      clear hk hk' this
      go_wp2_with fail
      exact bodyPost_ret (v := .int .i64 q) (by simp [results, Tryz.results23, go_sem, *]) rfl ⟨by rw [HC.out], rfl⟩
end Go.Proofs.YtlfbnfphocpgeaaGreatDoor.Jdec
namespace Go.Proofs.YtlfbnfphocpgeaaGreatDoor.Quo
open Utf
def shortB (c : UInt8) : Option UInt8 :=
  if c = 34 then some 34 else if c = 92 then some 92 else if c = 8 then some 98 else if c = 12 then some 102 else if c = 10 then some 110 else if c = 13 then some 114 else if c = 9 then some 116 else none
def hexD (n : Nat) : UInt8 := UInt8.ofNat (if n < 10 then 48 + n else 97 + n - 10)
def esc (c : UInt8) : List UInt8 :=
  match shortB c with
  | some x => [92, x]
  | none => if c.toNat < 32 then [92, 117, 48, 48, hexD (c.toNat / 16), hexD (c.toNat % 16)] else [c]
def print (s : List UInt8) : List UInt8 := 34 :: (s.flatMap esc ++ [34])
theorem esc_hi {c : UInt8} (h : 128 ≤ c.toNat) : esc c = [c] := by
  have hs : shortB c = none := by
    unfold shortB
    repeat (rw [if_neg (by rintro rfl; revert h; decide)])
  unfold esc
  rw [hs]
  dsimp only
  rw [if_neg (by omega)]
theorem esc_lo : ∀ c : Fin 128, (esc (UInt8.ofNat c.val)).head? ≠ some 34 ∧ (∀ j, j < (esc (UInt8.ofNat c.val)).length → (part ((esc (UInt8.ofNat c.val)).take j)).e = 2) := by decide +kernel
theorem hexV_hexD : ∀ n : Fin 16, hexV (hexD n.val) = some n.val := by decide +kernel
theorem unit_00 {a b : Nat} (ha : a < 16) (hb : b < 16) (r : List UInt8) : unit (48 :: 48 :: hexD a :: hexD b :: r) = (a * 16 + b, 0) := by
  have h1 : hexV (hexD a) = some a := hexV_hexD ⟨a, ha⟩
  have h2 : hexV (hexD b) = some b := hexV_hexD ⟨b, hb⟩
  have h3 : hexV 48 = some 0 := by decide
  unfold unit
  simp only [unitF, h1, h2, h3]
  simp
theorem coded_00 {a b : Nat} (ha : a < 16) (hb : b < 16) (r : List UInt8) : coded (48 :: 48 :: hexD a :: hexD b :: r) = ⟨enc (a * 16 + b), 6, 0⟩ := by
  unfold coded
  rw [unit_00 ha hb]
  dsimp only
  rw [if_neg (by omega), if_neg (by omega), if_pos (by omega)]
theorem ofNat_toNat (c : UInt8) : UInt8.ofNat c.toNat = c := UInt8.ofNat_toNat
theorem part_lo {c : UInt8} (h : c.toNat < 128) (r : List UInt8) : part (esc c ++ r) = ⟨[c], (esc c).length, 0⟩ := by
  cases hs : shortB c with
  | some x =>
    have he : esc c = [92, x] := by unfold esc; rw [hs]
    have hsg : sign x = some c := by
      unfold shortB at hs
      repeat (split at hs; (rename_i hc; injection hs with hs; subst hs; subst hc; decide))
      cases hs
    rw [he]
    show part (92 :: x :: r) = _
    unfold part
    dsimp only
    rw [if_neg (by decide), if_neg (by decide), hsg]
    rfl
  | none =>
    by_cases h32 : c.toNat < 32
    · have he : esc c = [92, 117, 48, 48, hexD (c.toNat / 16), hexD (c.toNat % 16)] := by unfold esc; rw [hs]; dsimp only; rw [if_pos h32]
      rw [he]
      show part (92 :: 117 :: 48 :: 48 :: hexD (c.toNat / 16) :: hexD (c.toNat % 16) :: r) = _
      unfold part
      dsimp only
      rw [if_neg (by decide), if_neg (by decide), show sign 117 = none by decide]
      dsimp only
      rw [if_pos rfl, coded_00 (by omega) (by omega), show c.toNat / 16 * 16 + c.toNat % 16 = c.toNat by omega, enc_byte h]
      rfl
    · have he : esc c = [c] := by unfold esc; rw [hs]; dsimp only; rw [if_neg h32]
      have h92 : c ≠ 92 := by rintro rfl; revert hs; decide
      have h1 := one_enc (c := c.toNat) (by unfold Scalar; omega) r
      rw [enc_byte h] at h1
      rw [he]
      show part (c :: r) = _
      have h1' : one (c :: r) = (c.toNat, 1) := h1
      unfold part
      dsimp only
      rw [if_neg h32, if_pos h92, h1']
      dsimp only
      rw [if_neg (by omega)]
      rfl
theorem enc_hi {c : Nat} (hc : Scalar c) (h : 128 ≤ c) : ∀ b ∈ enc c, 128 ≤ b.toNat := by
  intro b hb
  have hc' := hc
  unfold Scalar at hc'
  rcases enc_kinds hc with ⟨m1, e⟩ | ⟨m1, m2, e⟩ | ⟨m1, m2, e⟩ | ⟨m1, m2, e⟩
  · omega
  all_goals
    rw [e] at hb
    simp only [List.mem_cons, List.not_mem_nil, or_false] at hb
  · rcases hb with rfl | rfl <;> rw [nbc (by omega)] <;> omega
  · rcases hb with rfl | rfl | rfl <;> rw [nbc (by omega)] <;> omega
  · rcases hb with rfl | rfl | rfl | rfl <;> rw [nbc (by omega)] <;> omega
theorem esc_all {l : List UInt8} (h : ∀ b ∈ l, 128 ≤ b.toNat) : l.flatMap esc = l := by
  induction l with
  | nil => rfl
  | cons b l ih =>
    rw [List.flatMap_cons, esc_hi (h b (by simp)), ih (fun x hx => h x (by simp [hx]))]
    rfl
theorem part_hi {c : Nat} (hc : Scalar c) (h : 128 ≤ c) (r : List UInt8) : part (enc c ++ r) = ⟨enc c, (enc c).length, 0⟩ := by
  have hb := enc_hi hc h
  have hl := enc_len (c := c)
  have h1 := one_enc hc r
  obtain ⟨b, t, e⟩ := List.exists_cons_of_ne_nil (show enc c ≠ [] by intro e; rw [e] at hl; simp at hl)
  have hb0 := hb b (by rw [e]; simp)
  rw [e] at h1 ⊢
  show part (b :: (t ++ r)) = _
  have h1' : one (b :: (t ++ r)) = (c, (b :: t).length) := h1
  unfold part
  dsimp only
  rw [if_neg (by omega), if_pos (by rintro rfl; revert hb0; decide), h1']
  dsimp only
  rw [if_neg (by simp)]
  congr 1
  exact List.take_left (l₁ := b :: t) (l₂ := r)
def escS (c : Nat) : List UInt8 := (enc c).flatMap esc
theorem escS_lo {c : Nat} (h : c < 128) : escS c = esc (UInt8.ofNat c) := by
  have e : (UInt8.ofNat c).toNat = c := nbc (by omega)
  have := enc_byte (x := UInt8.ofNat c) (by omega)
  rw [e] at this
  unfold escS
  rw [this]
  simp
theorem part_escS {c : Nat} (hc : Scalar c) (r : List UInt8) : part (escS c ++ r) = ⟨enc c, (escS c).length, 0⟩ := by
  by_cases h : c < 128
  · have e : (UInt8.ofNat c).toNat = c := nbc (by omega)
    have hb := enc_byte (x := UInt8.ofNat c) (by omega)
    rw [e] at hb
    rw [escS_lo h, part_lo (by omega), hb]
  · have : escS c = enc c := esc_all (enc_hi hc (by omega))
    rw [this]
    exact part_hi hc (by omega) r
theorem escS_head {c : Nat} (hc : Scalar c) (r : List UInt8) : (escS c ++ r).head? ≠ some 34 ∧ escS c ≠ [] := by
  by_cases h : c < 128
  · have h1 := (esc_lo ⟨c, h⟩).1
    have hp := part_lo (c := UInt8.ofNat c) (by rw [nbc (by omega)]; exact h) []
    rw [escS_lo h]
    have hne : esc (UInt8.ofNat c) ≠ [] := by
      intro e
      rw [e] at hp
      cases hp
    obtain ⟨b, t, e⟩ := List.exists_cons_of_ne_nil hne
    dsimp only at h1
    rw [e] at h1 ⊢
    exact ⟨by simpa using h1, by simp⟩
  · have e0 : escS c = enc c := esc_all (enc_hi hc (by omega))
    have hl := enc_len (c := c)
    obtain ⟨b, t, e⟩ := List.exists_cons_of_ne_nil (show enc c ≠ [] by intro e; rw [e] at hl; simp at hl)
    have hb0 := enc_hi hc (by omega) b (by rw [e]; simp)
    rw [e0, e]
    refine ⟨?_, by simp⟩
    simp
    rintro rfl
    revert hb0
    decide
theorem valid_cs : ∀ l : List UInt8, bad l = none → ∃ cs : List Nat, (∀ c ∈ cs, Scalar c) ∧ l = cs.flatMap enc := by
  refine scan_ind ?_ ?_ ?_
  · intro _
    exact ⟨[], by simp, rfl⟩
  · intro l hl h0 h
    unfold bad at h
    rw [scan_bad hl h0] at h
    cases h
  · intro c r hc ih h
    unfold bad at h
    rw [scan_enc hc] at h
    have h2 : bad r = none := by
      have := scan_shift r 0 (enc c).length
      unfold bad
      cases hb : (Utf.scan 0 r).2 with
      | none => rfl
      | some x =>
        rw [this, hb] at h
        cases h
    obtain ⟨cs, h3, rfl⟩ := ih h2
    refine ⟨c :: cs, ?_, rfl⟩
    intro x hx
    rcases List.mem_cons.1 hx with rfl | hx
    · exact hc
    · exact h3 x hx
theorem flat_esc (cs : List Nat) : (cs.flatMap enc).flatMap esc = cs.flatMap escS := by
  induction cs with
  | nil => rfl
  | cons c cs ih =>
    rw [List.flatMap_cons, List.flatMap_append, ih, List.flatMap_cons]
    rfl
theorem scanF_print : ∀ (cs : List Nat), (∀ c ∈ cs, Scalar c) → ∀ (s : List UInt8) (at' : Nat) (more : List UInt8), scanF s at' (cs.flatMap escS ++ 34 :: more) = ⟨s ++ cs.flatMap enc, at' + (cs.flatMap escS).length + 1, 0⟩
  | [], _, s, at', more => by
    rw [scanF_end rfl]
    simp
  | c :: cs, h, s, at', more => by
    have hc := h c (by simp)
    have ih := scanF_print cs (fun x hx => h x (by simp [hx]))
    rw [List.flatMap_cons, List.append_assoc]
    have hp := part_escS hc (cs.flatMap escS ++ 34 :: more)
    rw [scanF_on (escS_head hc _).1 (by rw [hp]), hp]
    dsimp only
    rw [List.drop_left, ih, List.flatMap_cons, List.append_assoc, List.length_append]
    congr 1
    omega
theorem scan_print {s : List UInt8} (h : bad s = none) (more : List UInt8) : scan (print s ++ more) = ⟨s, (print s).length, 0⟩ := by
  obtain ⟨cs, h1, rfl⟩ := valid_cs s h
  unfold print
  rw [flat_esc]
  show scan (34 :: ((cs.flatMap escS ++ [34]) ++ more)) = _
  unfold scan
  dsimp only
  rw [if_neg (by simp), List.append_assoc]
  show scanF [] 1 (cs.flatMap escS ++ 34 :: more) = _
  rw [scanF_print cs h1]
  simp
  omega
theorem scan_ok {l : List UInt8} (h : (scan l).e = 0) : bad (scan l).s = none ∧ 0 < (scan l).size ∧ (scan l).size ≤ l.length := by
  match l, h with
  | [], h => cases h
  | c :: r, h =>
    unfold scan at h ⊢
    dsimp only at h ⊢
    by_cases hc : c ≠ 34
    · rw [if_pos hc] at h; cases h
    · rw [if_neg hc] at h ⊢
      have := scanF_ok r.length r rfl [] 1 (by unfold bad; rw [scan_nil]) h
      simp only [List.length_cons]
      exact ⟨this.1, by omega, by omega⟩
def parse (l : List UInt8) : List UInt8 × Nat := if (scan l).e ≠ 0 then ([], (scan l).e) else if (scan l).size < l.length then ([], 14) else ((scan l).s, 0)
theorem parse_print {s : List UInt8} (h : bad s = none) : parse (print s) = (s, 0) := by
  have h1 := scan_print h []
  rw [List.append_nil] at h1
  unfold parse
  rw [h1]
  dsimp only
  rw [if_neg (by simp), if_neg (by omega)]
end Go.Proofs.YtlfbnfphocpgeaaGreatDoor.Quo
