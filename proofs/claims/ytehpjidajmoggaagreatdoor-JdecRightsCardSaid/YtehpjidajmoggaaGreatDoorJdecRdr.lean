/- The reader of package jdec as it landed: has, want, skip. Nothing is claimed here. -/
import Derived.Test.YtehpjidajmoggaaGreatDoorJdecMore
import Derived.Test.YtehpjidajmoggaaGreatDoorTexts
import Derived.Test.YtehpjidajmoggaaGreatDoorTreeFresh
import Derived.BigQuiet
import Derived.Lib.Hide
namespace Go.Proofs.YtehpjidajmoggaaGreatDoor.Jdec
open Go.RowKit Kit Txt
open Utf (nb)

/-- The reader in block R is at q in s, so many brackets are open; its table is u. -/
def Rdr (R : Nat) (s : List UInt8) (q : Nat) (o : Int) (u : Value) (w : World) : Prop := w.heap[R]? = some (.cells #[.string (txt s), .int .i64 q, .int .i64 o, u] 45 (0, 0))
def rp (R : Nat) : Value := .pointer (some ⟨R, 0, none⟩)
theorem Rdr.goes {R : Nat} {s : List UInt8} {q : Nat} {o : Int} {u : Value} {w : World} (h : Rdr R s q o u w) (q' : Nat) : Rdr R s q' o u (w.setCell ⟨R, 1, none⟩ (.int .i64 q')) := set_of h 1 _
theorem Rdr.opens {R : Nat} {s : List UInt8} {q : Nat} {o : Int} {u : Value} {w : World} (h : Rdr R s q o u w) (o' : Int) : Rdr R s q o' u (w.setCell ⟨R, 2, none⟩ (.int .i64 o')) := set_of h 2 _
theorem Rdr.kept {R : Nat} {s : List UInt8} {q : Nat} {o : Int} {u : Value} {w w' : World} {row : Option Nat} (h : Rdr R s q o u w) (k : w.grownBy w' row) (hr : some R ≠ row) : Rdr R s q o u w' := (k.block R (lt_of_heap h) hr).trans h
theorem Rdr.below {R : Nat} {s : List UInt8} {q : Nat} {o : Int} {u : Value} {w w' : World} (h : Rdr R s q o u w) (k : Below w.heap.size w w') : Rdr R s q o u w' := (k.block R (lt_of_heap h)).trans h
theorem four {W : World} {g : Nat} {a b c d : Value} {t : TypeId} {fr : Nat × Nat} (h : W.heap[g]? = some (.cells #[a, b, c, d] t fr)) : W.cell? ⟨g, 0, none⟩ = some a ∧ W.cell? ⟨g, 1, none⟩ = some b ∧ W.cell? ⟨g, 2, none⟩ = some c ∧ W.cell? ⟨g, 3, none⟩ = some d :=
  ⟨cell_of h 0, cell_of h 1, cell_of h 2, cell_of h 3⟩
theorem grown_trans {a b c : World} {row : Option Nat} (h : a.grownBy b row) (k : b.grownBy c row) : a.grownBy c row :=
  ⟨k.os.trans h.os, k.tape.trans h.tape, k.output.trans h.output, Nat.le_trans h.size k.size, fun i hi hr => (k.block i (Nat.lt_of_lt_of_le hi h.size) hr).trans (h.block i hi hr)⟩
theorem grown_below {a b c : World} {row : Option Nat} (h : a.grownBy b row) (k : Below b.heap.size b c) : a.grownBy c row :=
  ⟨k.os.trans h.os, k.tape.trans h.tape, k.output.trans h.output, Nat.le_trans h.size k.size, fun i hi hr => (k.block i (Nat.lt_of_lt_of_le hi h.size)).trans (h.block i hi hr)⟩
theorem grown_cell (w : World) (b i : Nat) (v : Value) : w.grownBy (w.setCell ⟨b, i, none⟩ v) (some b) :=
  ⟨rfl, rfl, rfl, (KeepsWalks.setCell w _ v).size, fun k _ hk => Below.heap_setCell _ _ _ k (fun e => hk (by rw [e]))⟩
theorem drew_below (w : World) : Below w.heap.size w w.drew := below_drewN (Below.refl _ w) 1

/-- A block of eight cells, all stored anew. -/
theorem store8 {W : World} {g : Nat} {z0 z1 z2 z3 z4 z5 z6 z7 : Value} {t : TypeId} {fr : Nat × Nat} (h : W.heap[g]? = some (.cells #[z0, z1, z2, z3, z4, z5, z6, z7] t fr)) (a0 a1 a2 a3 a4 a5 a6 a7 : Value) :
    ((((((((W.setCell ⟨g, 0, none⟩ a0).setCell ⟨g, 1, none⟩ a1).setCell ⟨g, 2, none⟩ a2).setCell ⟨g, 3, none⟩ a3).setCell ⟨g, 4, none⟩ a4).setCell ⟨g, 5, none⟩ a5).setCell ⟨g, 6, none⟩ a6).setCell ⟨g, 7, none⟩ a7).heap[g]? = some (.cells #[a0, a1, a2, a3, a4, a5, a6, a7] t fr) := by
  have := set_of (set_of (set_of (set_of (set_of (set_of (set_of (set_of h 0 a0) 1 a1) 2 a2) 3 a3) 4 a4) 5 a5) 6 a6) 7 a7
  simpa using this
theorem grown8 (W : World) (g : Nat) (a0 a1 a2 a3 a4 a5 a6 a7 : Value) : W.grownBy ((((((((W.setCell ⟨g, 0, none⟩ a0).setCell ⟨g, 1, none⟩ a1).setCell ⟨g, 2, none⟩ a2).setCell ⟨g, 3, none⟩ a3).setCell ⟨g, 4, none⟩ a4).setCell ⟨g, 5, none⟩ a5).setCell ⟨g, 6, none⟩ a6).setCell ⟨g, 7, none⟩ a7) (some g) :=
  grown_trans (grown_trans (grown_trans (grown_trans (grown_trans (grown_trans (grown_trans (grown_cell _ g 0 _) (grown_cell _ g 1 _)) (grown_cell _ g 2 _)) (grown_cell _ g 3 _)) (grown_cell _ g 4 _)) (grown_cell _ g 5 _)) (grown_cell _ g 6 _)) (grown_cell _ g 7 _)
/-- A further step that turns one newer block. -/
theorem grown_on {a b c : World} {row : Option Nat} {g : Nat} (h : a.grownBy b row) (k : b.grownBy c (some g)) (hg : a.heap.size ≤ g) : a.grownBy c row :=
  ⟨k.os.trans h.os, k.tape.trans h.tape, k.output.trans h.output, Nat.le_trans h.size k.size, fun i hi hr => (k.block i (Nat.lt_of_lt_of_le hi h.size) (fun e => by cases e; omega)).trans (h.block i hi hr)⟩
theorem grown_alloc {a b : World} {row : Option Nat} (h : a.grownBy b row) (o : Obj) : a.grownBy (b.alloc o) row := grown_below h ((Below.refl _ b).alloc (Nat.le_refl _) o)
theorem kept_of {w w' : World} {R g : Nat} {o : Obj} (h : w.heap[g]? = some o) (k : w.grownBy w' (some R)) (hne : g ≠ R) : w'.heap[g]? = some o := (k.block g (lt_of_heap h) (fun e => hne (by cases e; rfl))).trans h
theorem eight {W : World} {g : Nat} {a b c d e f x y : Value} {t : TypeId} {fr : Nat × Nat} (h : W.heap[g]? = some (.cells #[a, b, c, d, e, f, x, y] t fr)) :
    W.cell? ⟨g, 0, none⟩ = some a ∧ W.cell? ⟨g, 1, none⟩ = some b ∧ W.cell? ⟨g, 2, none⟩ = some c ∧ W.cell? ⟨g, 3, none⟩ = some d ∧ W.cell? ⟨g, 4, none⟩ = some e ∧ W.cell? ⟨g, 5, none⟩ = some f ∧ W.cell? ⟨g, 6, none⟩ = some x ∧ W.cell? ⟨g, 7, none⟩ = some y :=
  ⟨cell_of h 0, cell_of h 1, cell_of h 2, cell_of h 3, cell_of h 4, cell_of h 5, cell_of h 6, cell_of h 7⟩
theorem free8 {W : World} {g : Nat} {a b c d e f x y : Value} {t : TypeId} (h : W.heap[g]? = some (.cells #[a, b, c, d, e, f, x, y] t (0, 0))) :
    W.frozen? ⟨g, 0, none⟩ = false ∧ W.frozen? ⟨g, 1, none⟩ = false ∧ W.frozen? ⟨g, 2, none⟩ = false ∧ W.frozen? ⟨g, 3, none⟩ = false ∧ W.frozen? ⟨g, 4, none⟩ = false ∧ W.frozen? ⟨g, 5, none⟩ = false ∧ W.frozen? ⟨g, 6, none⟩ = false ∧ W.frozen? ⟨g, 7, none⟩ = false :=
  ⟨free_of h 0, free_of h 1, free_of h 2, free_of h 3, free_of h 4, free_of h 5, free_of h 6, free_of h 7⟩

/-- Whether c is next. -/
def nextIs (c : UInt8) (l : List UInt8) : Bool := decide (l.head? = some c)
theorem next_at {c : UInt8} {l : List UInt8} {q : Nat} (h : q < l.length) : nextIs c (l.drop q) = decide (nb l q = c.toNat) := by
  unfold nextIs
  rw [List.drop_eq_getElem_cons h, nb_get h]
  rw [decide_eq_decide]
  exact ⟨fun e => by injection e with e; rw [e], fun e => by rw [List.head?_cons, UInt8.toNat_inj.1 e]⟩
theorem next_past {c : UInt8} {l : List UInt8} {q : Nat} (h : l.length ≤ q) : nextIs c (l.drop q) = false := by
  unfold nextIs
  rw [List.drop_eq_nil_of_le h]
  rfl

set_option maxRecDepth 100000 in
set_option maxHeartbeats 4000000 in
theorem has_any {w : World} {R : Nat} {s : List UInt8} {q : Nat} {o : Int} {u : Value} {c : UInt8} {x : Int} (_hs : s.length < 100000) (h : Rdr R s q o u w) (hx : x = (c.toNat : Int)) :
    Calls Tryz.prog 51 #[rp R, .int .u8 x] w fun e w' => e = .returned (.bool (nextIs c (s.drop q))) ∧ Below w.heap.size w w' := by
  subst hx
  obtain ⟨c0, c1, c2, c3⟩ := four h
  have hz := txt_size s
  unfold rp
  by_cases hq : q < s.length
  · have hlt1 : decide (q < s.length) = true := decide_eq_true hq
    have hlt' : (q : Int) < (s.length : Int) := by omega
    have hix := idx hq
    have hn := next_at (c := c) hq
    by_cases hc : nb s q = c.toNat
    · rw [decide_eq_true hc] at hn
      rw [hc] at hix
      rw [hn]
      clear hn hc h
      go_enter Tryz.func51, Tryz.ntmps51
      go_wp2_with fail
      go_quiet (fail)
      go_wp2_with fail
      go_ret
      exact ⟨rfl, below_drewN (Below.refl _ _) _⟩
    · rw [decide_eq_false hc] at hn
      rw [hn]
      have hne : (((nb s q : Nat) : Int) == ((c.toNat : Nat) : Int)) = false := by simp; omega
      generalize nb s q = y at *
      generalize c.toNat = z at *
      clear hn hc h
      go_enter Tryz.func51, Tryz.ntmps51
      go_wp2_with fail
      go_quiet (fail)
      go_wp2_with fail
      go_ret
      exact ⟨rfl, below_drewN (Below.refl _ _) _⟩
  · have hlt1 : decide (q < s.length) = false := decide_eq_false hq
    have hn := next_past (c := c) (l := s) (q := q) (by omega)
    rw [hn]
    clear hn h
    go_enter Tryz.func51, Tryz.ntmps51
    go_wp2_with fail
    go_quiet (fail)
    go_wp2_with fail
    go_ret
    exact ⟨rfl, below_drewN (Below.refl _ _) _⟩

/-- What want tells. -/
def wantE (c : UInt8) (l : List UInt8) : Nat := match l with
  | [] => 2
  | d :: _ => if d = c then 0 else 3
def wantQ (c : UInt8) (l : List UInt8) (q : Nat) : Nat := if wantE c l = 0 then q + 1 else q
theorem want_at {c : UInt8} {l : List UInt8} {q : Nat} (h : q < l.length) : wantE c (l.drop q) = if nb l q = c.toNat then 0 else 3 := by
  rw [List.drop_eq_getElem_cons h, nb_get h]
  show (if l[q] = c then 0 else 3) = _
  have e : (l[q] = c ↔ l[q].toNat = c.toNat) := ⟨fun e => by rw [e], fun e => UInt8.toNat_inj.1 e⟩
  simp only [e]
theorem want_past {c : UInt8} {l : List UInt8} {q : Nat} (h : l.length ≤ q) : wantE c (l.drop q) = 2 := by
  rw [List.drop_eq_nil_of_le h]
  rfl

set_option maxRecDepth 100000 in
set_option maxHeartbeats 4000000 in
theorem want_any {w : World} {R : Nat} {s : List UInt8} {q : Nat} {o : Int} {u : Value} {c : UInt8} {x : Int} (hs : s.length < 100000) (hq : q ≤ s.length) (h : Rdr R s q o u w) (hx : x = (c.toNat : Int)) :
    Calls Tryz.prog 52 #[rp R, .int .u8 x] w fun e w' => e = .returned (.int .i64 (wantE c (s.drop q))) ∧ Rdr R s (wantQ c (s.drop q) q) o u w' ∧ w.grownBy w' (some R) := by
  subst hx
  obtain ⟨c0, c1, c2, c3⟩ := four h
  have hz := txt_size s
  have hf := free_of h 1
  have hR := lt_of_heap h
  unfold rp wantQ
  have hB := fun (n : Nat) => (show Rdr R s q o u (w.drewN n) from h)
  have hG := fun (n : Nat) => (show w.grownBy (w.drewN n) (some R) from ⟨rfl, rfl, rfl, Nat.le_refl _, fun _ _ _ => rfl⟩)
  by_cases hq2 : q < s.length
  · have heq : ((q : Int) == (s.length : Int)) = false := by simp; omega
    have hlt' : (q : Int) < (s.length : Int) := by omega
    have hwq : IntKind.i64.wrap ((q : Int) + 1) = (q : Int) + 1 := by simp only [IntKind.wrap, IntKind.signed, IntKind.bits]; simp; omega
    have hix := idx hq2
    have hn := want_at (c := c) hq2
    by_cases hc : nb s q = c.toNat
    · rw [if_pos hc] at hn
      rw [hn]
      rw [hc] at hix
      have hne : (((c.toNat : Nat) : Int) != ((c.toNat : Nat) : Int)) = false := by simp
      have fin : ∀ wx, Rdr R s q o u wx → w.grownBy wx (some R) → Rdr R s (q + 1) o u (wx.setCell ⟨R, 1, none⟩ (.int .i64 ((q : Int) + 1))) ∧ w.grownBy (wx.setCell ⟨R, 1, none⟩ (.int .i64 ((q : Int) + 1))) (some R) := fun wx h1 h2 => ⟨h1.goes (q + 1), grown_trans h2 (grown_cell _ _ _ _)⟩
      have HF := Lib.hid fin
      have HB := Lib.hid hB
      have HG := Lib.hid hG
      clear hn hc h fin hB hG
      go_enter Tryz.func52, Tryz.ntmps52
      go_wp2_with fail
      go_quiet (fail)
      go_wp2_with fail
      go_quiet (fail)
      go_wp2_with fail
      go_ret
      exact ⟨rfl, HF.out _ (HB.out _) (HG.out _)⟩
    · rw [if_neg hc] at hn
      rw [hn]
      have hne : (((nb s q : Nat) : Int) != ((c.toNat : Nat) : Int)) = true := by simp; omega
      generalize nb s q = y at *
      generalize c.toNat = z at *
      have HB := Lib.hid hB
      have HG := Lib.hid hG
      clear hn hc h hB hG
      go_enter Tryz.func52, Tryz.ntmps52
      go_wp2_with fail
      go_quiet (fail)
      go_wp2_with fail
      go_quiet (fail)
      go_wp2_with fail
      go_ret
      exact ⟨rfl, HB.out _, HG.out _⟩
  · have heq : ((q : Int) == (s.length : Int)) = true := by simp; omega
    have hn := want_past (c := c) (l := s) (q := q) (by omega)
    rw [hn]
    have HB := Lib.hid hB
    have HG := Lib.hid hG
    clear hn h hB hG
    go_enter Tryz.func52, Tryz.ntmps52
    go_wp2_with fail
    go_quiet (fail)
    go_wp2_with fail
    go_ret
    exact ⟨rfl, HB.out _, HG.out _⟩
end Go.Proofs.YtehpjidajmoggaaGreatDoor.Jdec
