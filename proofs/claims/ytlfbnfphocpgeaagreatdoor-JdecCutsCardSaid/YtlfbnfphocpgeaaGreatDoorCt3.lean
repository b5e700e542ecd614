/- A part of what cuts_holds leans on (its texts, put together). Nothing is claimed here. -/
import Derived.RangeFuncNested
import Derived.RangeFuncBound
import Derived.RangeFuncCalls
import Derived.RangeFuncLeaves
import Derived.RangeFuncBox
import Derived.Shelf.Abstract
import Derived.OwnWalkIn
import Derived.TacticsInMore
import Derived.LoopNIn
import Derived.LoopIn
import Derived.Maps.AppendAt
import Derived.Lib.Hide
import Derived.Shelf.RegionOpen
import Derived.Test.YtlfbnfphocpgeaaGreatDoorShelf
import Derived.StillTailTactics
import Derived.Recover
import Derived.Laws.Pointers
import Derived.Deep.RegionHeld3
import Derived.Maps.OwnSet
import Derived.Test.YtlfbnfphocpgeaaGreatDoorCt2
namespace Go.Proofs.YtlfbnfphocpgeaaGreatDoor.Jdec
open Go.RowKit Kit Txt
open Utf (nb)
open Tre (Val HoldF zeroV)
theorem word_end (v : Val) {W l : List UInt8} {i q : Nat} (h : W.length ≤ i) : word v (W.drop i) (l.drop q) = .ok v (l.drop q) := by
  rw [List.drop_eq_nil_of_le h, word]
theorem word_go (v : Val) {W l : List UInt8} {i q : Nat} (h : i < W.length) (hw : wantE W[i] (l.drop q) = 0) : q < l.length ∧ word v (W.drop i) (l.drop q) = word v (W.drop (i + 1)) (l.drop (q + 1)) := by
  by_cases hq : q < l.length
  · refine ⟨hq, ?_⟩
    rw [want_at hq, nb_get hq] at hw
    rw [List.drop_eq_getElem_cons h, List.drop_eq_getElem_cons hq, word, if_pos]
    by_cases e : l[q].toNat = W[i].toNat
    · exact UInt8.toNat_inj.1 e
    · rw [if_neg e] at hw
      cases hw
  · rw [want_past (by omega)] at hw
    cases hw
theorem word_no (v : Val) {W l : List UInt8} {i q : Nat} (h : i < W.length) (hw : wantE W[i] (l.drop q) ≠ 0) : word v (W.drop i) (l.drop q) = .no (l.drop q) (wantE W[i] (l.drop q)) := by
  by_cases hq : q < l.length
  · rw [want_at hq, nb_get hq] at hw ⊢
    rw [List.drop_eq_getElem_cons h, List.drop_eq_getElem_cons hq, word, if_neg, if_neg]
    · intro e
      rw [if_pos e] at hw
      exact hw rfl
    · intro e
      rw [if_pos (by rw [e])] at hw
      exact hw rfl
  · have hq' : l.length ≤ q := by omega
    rw [want_past hq', List.drop_eq_getElem_cons h, List.drop_eq_nil_of_le hq', word]
/-- What a method of the reader tells, and where it is then. -/
def Told (R : Nat) (s : List UInt8) (u : Value) (o : Int) (w : World) (g : Got Val) (e : Ending) (w' : World) : Prop :=
  w.grownBy w' (some R) ∧ match g with
  | .ok v r => ∃ y, e = .returned (.tuple #[y, .int .i64 0]) ∧ HoldF w.heap.size w' y v ∧ Rdr R s (s.length - r.length) o u w'
  | .no r k => e = .returned (.tuple #[zeroV, .int .i64 k]) ∧ ∃ o' : Int, Rdr R s (s.length - r.length) o' u w'
theorem Told.ok {R : Nat} {s : List UInt8} {u : Value} {o : Int} {w : World} {g : Got Val} {v : Val} {r : List UInt8} {y : Value} {w' : World} {q : Nat} (hg : g = .ok v r) (hq : s.length - r.length = q) (k : w.grownBy w' (some R)) (hy : HoldF w.heap.size w' y v) (h : Rdr R s q o u w') :
    Told R s u o w g (.returned (.tuple #[y, .int .i64 0])) w' := by
  subst hg; subst hq
  exact ⟨k, y, rfl, hy, h⟩
theorem Told.no {R : Nat} {s : List UInt8} {u : Value} {o o' : Int} {w : World} {g : Got Val} {k : Nat} {r : List UInt8} {w' : World} {q : Nat} (hg : g = .no r k) (hq : s.length - r.length = q) (kk : w.grownBy w' (some R)) (h : Rdr R s q o' u w') :
    Told R s u o w g (.returned (.tuple #[zeroV, .int .i64 k])) w' := by
  subst hg; subst hq
  exact ⟨kk, rfl, o', h⟩
theorem holdF_form {B : Nat} {w : World} {y : Value} {v : Val} (h : HoldF B w y v) : ∃ pk ck a c, y = .agg #[.int .i64 v.kind, .bool v.is, .bool v.num.neg, .string (txt v.num.dig), .int .i64 v.num.exp, .string (txt v.str), .slice pk v.keys.length ck, .slice a v.kids.length c] := by
  obtain ⟨k, b, n, s, ks, vs⟩ := v
  obtain ⟨cs, rfl, hc⟩ := h
  rw [Tre.HoldP] at hc
  obtain ⟨uk, a, c, rfl, ⟨pk, ck, rfl, -⟩, -⟩ := hc
  exact ⟨pk, ck, a, c, rfl⟩
theorem Told.grown {R : Nat} {s : List UInt8} {u : Value} {o : Int} {w : World} {g : Got Val} {e : Ending} {w' : World} (h : Told R s u o w g e w') : w.grownBy w' (some R) := h.1
/-- Two results, the first one a value: their form. -/
theorem Told.form {R : Nat} {s : List UInt8} {u : Value} {o : Int} {w : World} {g : Got Val} {e : Ending} {w' : World} (h : Told R s u o w g e w') : ∃ (k : Int) (b : Bool) (n : Num.Dec) (t : List UInt8) (pk : Option Addr) (lk ck : Nat) (a : Option Addr) (lv c ek : Nat),
    e = .returned (.tuple #[.agg #[.int .i64 k, .bool b, .bool n.neg, .string (txt n.dig), .int .i64 n.exp, .string (txt t), .slice pk lk ck, .slice a lv c], .int .i64 ek]) := by
  cases g with
  | ok v r =>
    obtain ⟨-, y, rfl, hy, -⟩ := h
    obtain ⟨pk, ck, a, c, rfl⟩ := holdF_form hy
    exact ⟨_, _, v.num, v.str, _, _, _, _, _, _, 0, rfl⟩
  | no r k =>
    obtain ⟨-, rfl, -⟩ := h
    exact ⟨0, false, Num.zero, [], _, _, _, _, _, _, k, rfl⟩
/-- It is told in a later world, where what the call made, and the reader, are as they were. -/
theorem Told.move {R : Nat} {s : List UInt8} {u : Value} {o : Int} {w w0 w2 : World} {g : Got Val} {e : Ending} {w' : World} (h : Told R s u o w g e w') (k : w0.grownBy w2 (some R)) (hz : w0.heap.size ≤ w.heap.size) (hz2 : w'.heap.size ≤ w2.heap.size) (hk : ∀ i, w.heap.size ≤ i ∨ i = R → i < w'.heap.size → w2.heap[i]? = w'.heap[i]?) : Told R s u o w0 g e w2 := by
  cases g with
  | ok v r =>
    obtain ⟨-, y, rfl, ⟨cs, hcs, hP⟩, hr⟩ := h
    refine ⟨k, y, rfl, ⟨cs, hcs, ?_⟩, (hk R (.inr rfl) (lt_of_heap hr)).trans hr⟩
    exact Tre.HoldP.mono (fun g hg _ => Nat.le_trans hz hg) v (Tre.HoldP.keep hz2 (fun g hg hlt => hk g (.inl hg) hlt) v hP)
  | no r kk =>
    obtain ⟨-, rfl, o', hr⟩ := h
    exact ⟨k, rfl, o', (hk R (.inr rfl) (lt_of_heap hr)).trans hr⟩
/-- The result is stored in a block of the caller's. -/
theorem Told.stored {R G : Nat} {s : List UInt8} {u : Value} {o : Int} {w w0 w2 : World} {g : Got Val} {e : Ending} {w' : World} (h : Told R s u o w g e w') (k : w0.grownBy w (some R)) (k2 : w'.grownBy w2 (some G)) (hG : w0.heap.size ≤ G) (hG2 : G < w.heap.size) (hR : R < w0.heap.size) : Told R s u o w0 g e w2 :=
  h.move (grown_on (grown_trans k h.1) k2 hG) k.size k2.size fun i hi hlt => k2.block i hlt (fun e => by cases e; omega)
theorem drop_at {s : List UInt8} {q : Nat} (h : q ≤ s.length) : s.length - (s.drop q).length = q := by rw [List.length_drop]; omega
set_option maxRecDepth 100000 in
set_option maxHeartbeats 8000000 in
theorem mword_any {w : World} {R : Nat} {s W : List UInt8} {q : Nat} {o : Int} {u : Value} {kk : Int} {bb : Bool} (v : Val) (hs : s.length < 100000) (hW : W.length ≤ 10) (hq : q ≤ s.length) (h : Rdr R s q o u w)
    (hv : ∀ B wx, HoldF B wx (.agg #[.int .i64 kk, .bool bb, .bool false, .string ⟨#[]⟩, .int .i64 0, .string ⟨#[]⟩, .slice none 0 0, .slice none 0 0]) v) :
    Calls Tryz.prog 68 #[rp R, .string (txt W), .agg #[.int .i64 kk, .bool bb, .bool false, .string ⟨#[]⟩, .int .i64 0, .string ⟨#[]⟩, .slice none 0 0, .slice none 0 0]] w (Told R s u o w (word v W (s.drop q))) := by
  have hz := txt_size s
  have hzW := txt_size W
  have hR := lt_of_heap h
  have hA0 := new_of (World.alloc_heap_new w (.cells #[.int .i64 kk, .bool bb, .bool false, .string ⟨#[]⟩, .int .i64 0, .string ⟨#[]⟩, .slice none 0 0, .slice none 0 0] 29)) (.cells #[.int .i64 0, .bool false, .bool false, .string ⟨#[]⟩, .int .i64 0, .string ⟨#[]⟩, .slice none 0 0, .slice none 0 0] 29)
  have hB0 := World.alloc_heap_new (w.alloc (.cells #[.int .i64 kk, .bool bb, .bool false, .string ⟨#[]⟩, .int .i64 0, .string ⟨#[]⟩, .slice none 0 0, .slice none 0 0] 29)) (.cells #[.int .i64 0, .bool false, .bool false, .string ⟨#[]⟩, .int .i64 0, .string ⟨#[]⟩, .slice none 0 0, .slice none 0 0] 29)
  rw [World.size_alloc] at hB0
  have g0 := grown_alloc (grown_alloc (World.grownBy.refl w (some R)) (.cells #[.int .i64 kk, .bool bb, .bool false, .string ⟨#[]⟩, .int .i64 0, .string ⟨#[]⟩, .slice none 0 0, .slice none 0 0] 29)) (.cells #[.int .i64 0, .bool false, .bool false, .string ⟨#[]⟩, .int .i64 0, .string ⟨#[]⟩, .slice none 0 0, .slice none 0 0] 29)
  have h0 : Rdr R s q o u ((w.alloc (.cells #[.int .i64 kk, .bool bb, .bool false, .string ⟨#[]⟩, .int .i64 0, .string ⟨#[]⟩, .slice none 0 0, .slice none 0 0] 29)).alloc (.cells #[.int .i64 0, .bool false, .bool false, .string ⟨#[]⟩, .int .i64 0, .string ⟨#[]⟩, .slice none 0 0, .slice none 0 0] 29)) := new_of (new_of h _) _
  have HV := Lib.hid hv
  clear hv
  unfold rp
  go_enter Tryz.func68, Tryz.ntmps68
  go_wp2_with fail
  go_loopw [12] (fun a wr => ∃ i : Nat, a = .int .i64 i ∧ i ≤ W.length ∧ q + i ≤ s.length ∧ word v W (s.drop q) = word v (W.drop i) (s.drop (q + i)) ∧ Rdr R s (q + i) o u wr ∧ wr.heap[w.heap.size]? = some (.cells #[.int .i64 kk, .bool bb, .bool false, .string ⟨#[]⟩, .int .i64 0, .string ⟨#[]⟩, .slice none 0 0, .slice none 0 0] 29 (0, 0)) ∧ wr.heap[w.heap.size + 1]? = some (.cells #[.int .i64 0, .bool false, .bool false, .string ⟨#[]⟩, .int .i64 0, .string ⟨#[]⟩, .slice none 0 0, .slice none 0 0] 29 (0, 0)) ∧ w.grownBy wr (some R)) (fun a _ => W.length - (intOf a).toNat)
  case atStart => exact ⟨0, rfl, by omega, by omega, rfl, h0, hA0, hB0, g0⟩
  case round =>
    clear hA0 hB0 g0 h0 h
    obtain ⟨i, rfl, hi, hqi, hk, hr, hA, hB, hg⟩ := hrel
    have hwi : IntKind.i64.wrap ((i : Int) + 1) = (i : Int) + 1 := by simp only [IntKind.wrap, IntKind.signed, IntKind.bits]; simp; omega
    by_cases hlt : i < W.length
    · have hlt1 : decide (i < W.length) = true := decide_eq_true hlt
      have hlt' : (i : Int) < (W.length : Int) := by omega
      have hix := idx hlt
      rw [nb_get hlt] at hix
      have hwt := want_any (c := W[i]) hs hqi hr rfl
      by_cases he : wantE W[i] (s.drop (q + i)) = 0
      · obtain ⟨hlq, hk2⟩ := word_go v hlt he
        rw [wantQ, he, if_pos rfl] at hwt
        have HK := Lib.hid (hk.trans hk2)
        have HW := Lib.hid hwt
        clear hk hk2 hwt he
        generalize (W[i]).toNat = y at *
        unfold rp at HW
        go_wp2_with fail
        refine HW.out.mono ?_
        rintro e w1 ⟨rfl, k1, k2⟩
        have hA1 := kept_of hA k2 (by omega)
        have hB1 := kept_of hB k2 (by omega)
        have g1 := grown_trans hg k2
        go_wp2_with fail
        go_roundw
        case rel => exact ⟨i + 1, by go_num, by omega, by omega, HK.out, k1, hA1, hB1, g1⟩
        case measure => simp [intOf]; omega
      · have hk2 := word_no v hlt he
        rw [wantQ, if_neg he] at hwt
        have hne : (((wantE W[i] (s.drop (q + i)) : Nat) : Int) != 0) = true := by simpa using he
        generalize wantE W[i] (s.drop (q + i)) = ee at *
        have HK := Lib.hid (hk.trans hk2)
        have HW := Lib.hid hwt
        clear hk hk2 hwt he
        generalize (W[i]).toNat = y at *
        unfold rp at HW
        go_wp2_with fail
        refine HW.out.mono ?_
        rintro e w1 ⟨rfl, k1, k2⟩
        have hB1 := kept_of hB k2 (by omega)
        have hB2 := store8 hB1 (.int .i64 0) (.bool false) (.bool false) (.string ⟨#[]⟩) (.int .i64 0) (.string ⟨#[]⟩) (.slice none 0 0) (.slice none 0 0)
        have k3 := grown8 w1 (w.heap.size + 1) (.int .i64 0) (.bool false) (.bool false) (.string ⟨#[]⟩) (.int .i64 0) (.string ⟨#[]⟩) (.slice none 0 0) (.slice none 0 0)
        have g3 := grown_on (grown_trans hg k2) k3 (by omega)
        have r3 := k1.kept k3 (by simp; omega)
        obtain ⟨e0, e1, e2, e3, e4, e5, e6, e7⟩ := eight hB1
        obtain ⟨f0, f1, f2, f3, f4, f5, f6, f7⟩ := free8 hB1
        have HB := Lib.hid hB2
        have HG := Lib.hid g3
        have HR := Lib.hid r3
        clear hB2 g3 r3 k3
        go_wp2_with fail
        obtain ⟨d0, d1, d2, d3, d4, d5, d6, d7⟩ := eight HB.out
        refine bodyPost_ret (v := .tuple #[zeroV, .int .i64 ee]) (by simp [results, Tryz.results68, go_sem, zeroV, d0, d1, d2, d3, d4, d5, d6, d7]) rfl ?_
        exact .no HK.out (drop_at hqi) HG.out HR.out
    · obtain rfl : i = W.length := by omega
      have hlt1 : decide (W.length < W.length) = false := by simp
      have hk2 := hk.trans (word_end v (Nat.le_refl _))
      have hB2 := store8 hB (.int .i64 kk) (.bool bb) (.bool false) (.string ⟨#[]⟩) (.int .i64 0) (.string ⟨#[]⟩) (.slice none 0 0) (.slice none 0 0)
      have k3 := grown8 wr (w.heap.size + 1) (.int .i64 kk) (.bool bb) (.bool false) (.string ⟨#[]⟩) (.int .i64 0) (.string ⟨#[]⟩) (.slice none 0 0) (.slice none 0 0)
      have g3 := grown_on hg k3 (by omega)
      have r3 := hr.kept k3 (by simp; omega)
      obtain ⟨e0, e1, e2, e3, e4, e5, e6, e7⟩ := eight hB
      obtain ⟨f0, f1, f2, f3, f4, f5, f6, f7⟩ := free8 hB
      obtain ⟨a0, a1, a2, a3, a4, a5, a6, a7⟩ := eight hA
      have HK := Lib.hid hk2
      have HB := Lib.hid hB2
      have HG := Lib.hid g3
      have HR := Lib.hid r3
      clear hk hk2 hB2 g3 r3 k3
      go_wp2_with fail
      obtain ⟨d0, d1, d2, d3, d4, d5, d6, d7⟩ := eight HB.out
      refine bodyPost_ret (v := .tuple #[.agg #[.int .i64 kk, .bool bb, .bool false, .string ⟨#[]⟩, .int .i64 0, .string ⟨#[]⟩, .slice none 0 0, .slice none 0 0], .int .i64 0]) (by simp [results, Tryz.results68, go_sem, d0, d1, d2, d3, d4, d5, d6, d7]) rfl ?_
      exact .ok HK.out (drop_at hqi) HG.out (HV.out _ _) HR.out
/-- A value that is no list and no object, by its cells. -/
theorem flat_hold (k : Int) (b : Bool) (n : Num.Dec) (t : List UInt8) (B : Nat) (wx : World) : HoldF B wx (.agg #[.int .i64 k, .bool b, .bool n.neg, .string (txt n.dig), .int .i64 n.exp, .string (txt t), .slice none 0 0, .slice none 0 0]) ⟨k, b, n, t, [], []⟩ := by
  refine ⟨_, rfl, ?_⟩
  rw [Tre.HoldP]
  exact ⟨_, none, 0, rfl, ⟨none, 0, rfl, Nat.le_refl _, by omega, .inl rfl⟩, Nat.le_refl _, by omega, .inl rfl⟩
set_option maxRecDepth 100000 in
set_option maxHeartbeats 8000000 in
theorem mnull_any {w : World} {R : Nat} {s : List UInt8} {q : Nat} {o : Int} {u : Value} (hs : s.length < 100000) (hq : q ≤ s.length) (h : Rdr R s q o u w) :
    Calls Tryz.prog 44 #[rp R] w (Told R s u o w (word ⟨1, false, Num.zero, [], [], []⟩ [110, 117, 108, 108] (s.drop q))) := by
  have hR := lt_of_heap h
  have hB := World.alloc_heap_new w (.cells #[.int .i64 0, .bool false, .bool false, .string ⟨#[]⟩, .int .i64 0, .string ⟨#[]⟩, .slice none 0 0, .slice none 0 0] 29)
  have g0 := grown_alloc (World.grownBy.refl w (some R)) (.cells #[.int .i64 0, .bool false, .bool false, .string ⟨#[]⟩, .int .i64 0, .string ⟨#[]⟩, .slice none 0 0, .slice none 0 0] 29)
  have h0 : Rdr R s q o u (w.alloc (.cells #[.int .i64 0, .bool false, .bool false, .string ⟨#[]⟩, .int .i64 0, .string ⟨#[]⟩, .slice none 0 0, .slice none 0 0] 29)) := new_of h _
  have hw := mword_any (kk := 1) (bb := false) (W := [110, 117, 108, 108]) ⟨1, false, Num.zero, [], [], []⟩ hs (by decide) hq h0 (fun B wx => flat_hold 1 false Num.zero [] B wx)
  generalize hg : word ⟨1, false, Num.zero, [], [], []⟩ [110, 117, 108, 108] (s.drop q) = g at *
  have HW := Lib.hid hw
  clear hw hg h
  unfold rp txt at HW
  unfold rp
  go_enter Tryz.func44, Tryz.ntmps44
  go_wp2_with fail
  refine HW.out.mono ?_
  rintro e w1 hT
  obtain ⟨k0, b0, n0, t0, pk, lk, ck, ak, lv, cc, ek, rfl⟩ := hT.form
  have hB1 := kept_of hB hT.grown (by omega)
  have k3 := grown8 w1 w.heap.size (.int .i64 k0) (.bool b0) (.bool n0.neg) (.string (txt n0.dig)) (.int .i64 n0.exp) (.string (txt t0)) (.slice pk lk ck) (.slice ak lv cc)
  have hB2 := store8 hB1 (.int .i64 k0) (.bool b0) (.bool n0.neg) (.string (txt n0.dig)) (.int .i64 n0.exp) (.string (txt t0)) (.slice pk lk ck) (.slice ak lv cc)
  have hT2 := hT.stored g0 k3 (Nat.le_refl _) (by simp) hR
  obtain ⟨e0, e1, e2, e3, e4, e5, e6, e7⟩ := eight hB1
  obtain ⟨f0, f1, f2, f3, f4, f5, f6, f7⟩ := free8 hB1
  have HB := Lib.hid hB2
  have HT := Lib.hid hT2
  clear hB2 hT2 k3 hT
  go_wp2_with fail
  obtain ⟨d0, d1, d2, d3, d4, d5, d6, d7⟩ := eight HB.out
  refine bodyPost_ret (v := .tuple #[.agg #[.int .i64 k0, .bool b0, .bool n0.neg, .string (txt n0.dig), .int .i64 n0.exp, .string (txt t0), .slice pk lk ck, .slice ak lv cc], .int .i64 ek]) (by simp [results, Tryz.results44, go_sem, d0, d1, d2, d3, d4, d5, d6, d7]) rfl ?_
  exact HT.out
set_option maxRecDepth 100000 in
set_option maxHeartbeats 8000000 in
theorem myes_any {w : World} {R : Nat} {s : List UInt8} {q : Nat} {o : Int} {u : Value} (hs : s.length < 100000) (hq : q ≤ s.length) (h : Rdr R s q o u w) :
    Calls Tryz.prog 45 #[rp R] w (Told R s u o w (word ⟨2, true, Num.zero, [], [], []⟩ [116, 114, 117, 101] (s.drop q))) := by
  have hR := lt_of_heap h
  have hB := World.alloc_heap_new w (.cells #[.int .i64 0, .bool false, .bool false, .string ⟨#[]⟩, .int .i64 0, .string ⟨#[]⟩, .slice none 0 0, .slice none 0 0] 29)
  have g0 := grown_alloc (World.grownBy.refl w (some R)) (.cells #[.int .i64 0, .bool false, .bool false, .string ⟨#[]⟩, .int .i64 0, .string ⟨#[]⟩, .slice none 0 0, .slice none 0 0] 29)
  have h0 : Rdr R s q o u (w.alloc (.cells #[.int .i64 0, .bool false, .bool false, .string ⟨#[]⟩, .int .i64 0, .string ⟨#[]⟩, .slice none 0 0, .slice none 0 0] 29)) := new_of h _
  have hw := mword_any (kk := 2) (bb := true) (W := [116, 114, 117, 101]) ⟨2, true, Num.zero, [], [], []⟩ hs (by decide) hq h0 (fun B wx => flat_hold 2 true Num.zero [] B wx)
  generalize hg : word ⟨2, true, Num.zero, [], [], []⟩ [116, 114, 117, 101] (s.drop q) = g at *
  have HW := Lib.hid hw
  clear hw hg h
  unfold rp txt at HW
  unfold rp
  go_enter Tryz.func45, Tryz.ntmps45
  go_wp2_with fail
  refine HW.out.mono ?_
  rintro e w1 hT
  obtain ⟨k0, b0, n0, t0, pk, lk, ck, ak, lv, cc, ek, rfl⟩ := hT.form
  have hB1 := kept_of hB hT.grown (by omega)
  have k3 := grown8 w1 w.heap.size (.int .i64 k0) (.bool b0) (.bool n0.neg) (.string (txt n0.dig)) (.int .i64 n0.exp) (.string (txt t0)) (.slice pk lk ck) (.slice ak lv cc)
  have hB2 := store8 hB1 (.int .i64 k0) (.bool b0) (.bool n0.neg) (.string (txt n0.dig)) (.int .i64 n0.exp) (.string (txt t0)) (.slice pk lk ck) (.slice ak lv cc)
  have hT2 := hT.stored g0 k3 (Nat.le_refl _) (by simp) hR
  obtain ⟨e0, e1, e2, e3, e4, e5, e6, e7⟩ := eight hB1
  obtain ⟨f0, f1, f2, f3, f4, f5, f6, f7⟩ := free8 hB1
  have HB := Lib.hid hB2
  have HT := Lib.hid hT2
  clear hB2 hT2 k3 hT
  go_wp2_with fail
  obtain ⟨d0, d1, d2, d3, d4, d5, d6, d7⟩ := eight HB.out
  refine bodyPost_ret (v := .tuple #[.agg #[.int .i64 k0, .bool b0, .bool n0.neg, .string (txt n0.dig), .int .i64 n0.exp, .string (txt t0), .slice pk lk ck, .slice ak lv cc], .int .i64 ek]) (by simp [results, Tryz.results45, go_sem, d0, d1, d2, d3, d4, d5, d6, d7]) rfl ?_
  exact HT.out
set_option maxRecDepth 100000 in
set_option maxHeartbeats 8000000 in
theorem mno_any {w : World} {R : Nat} {s : List UInt8} {q : Nat} {o : Int} {u : Value} (hs : s.length < 100000) (hq : q ≤ s.length) (h : Rdr R s q o u w) :
    Calls Tryz.prog 46 #[rp R] w (Told R s u o w (word ⟨2, false, Num.zero, [], [], []⟩ [102, 97, 108, 115, 101] (s.drop q))) := by
  have hR := lt_of_heap h
  have hB := World.alloc_heap_new w (.cells #[.int .i64 0, .bool false, .bool false, .string ⟨#[]⟩, .int .i64 0, .string ⟨#[]⟩, .slice none 0 0, .slice none 0 0] 29)
  have g0 := grown_alloc (World.grownBy.refl w (some R)) (.cells #[.int .i64 0, .bool false, .bool false, .string ⟨#[]⟩, .int .i64 0, .string ⟨#[]⟩, .slice none 0 0, .slice none 0 0] 29)
  have h0 : Rdr R s q o u (w.alloc (.cells #[.int .i64 0, .bool false, .bool false, .string ⟨#[]⟩, .int .i64 0, .string ⟨#[]⟩, .slice none 0 0, .slice none 0 0] 29)) := new_of h _
  have hw := mword_any (kk := 2) (bb := false) (W := [102, 97, 108, 115, 101]) ⟨2, false, Num.zero, [], [], []⟩ hs (by decide) hq h0 (fun B wx => flat_hold 2 false Num.zero [] B wx)
  generalize hg : word ⟨2, false, Num.zero, [], [], []⟩ [102, 97, 108, 115, 101] (s.drop q) = g at *
  have HW := Lib.hid hw
  clear hw hg h
  unfold rp txt at HW
  unfold rp
  go_enter Tryz.func46, Tryz.ntmps46
  go_wp2_with fail
  refine HW.out.mono ?_
  rintro e w1 hT
  obtain ⟨k0, b0, n0, t0, pk, lk, ck, ak, lv, cc, ek, rfl⟩ := hT.form
  have hB1 := kept_of hB hT.grown (by omega)
  have k3 := grown8 w1 w.heap.size (.int .i64 k0) (.bool b0) (.bool n0.neg) (.string (txt n0.dig)) (.int .i64 n0.exp) (.string (txt t0)) (.slice pk lk ck) (.slice ak lv cc)
  have hB2 := store8 hB1 (.int .i64 k0) (.bool b0) (.bool n0.neg) (.string (txt n0.dig)) (.int .i64 n0.exp) (.string (txt t0)) (.slice pk lk ck) (.slice ak lv cc)
  have hT2 := hT.stored g0 k3 (Nat.le_refl _) (by simp) hR
  obtain ⟨e0, e1, e2, e3, e4, e5, e6, e7⟩ := eight hB1
  obtain ⟨f0, f1, f2, f3, f4, f5, f6, f7⟩ := free8 hB1
  have HB := Lib.hid hB2
  have HT := Lib.hid hT2
  clear hB2 hT2 k3 hT
  go_wp2_with fail
  obtain ⟨d0, d1, d2, d3, d4, d5, d6, d7⟩ := eight HB.out
  refine bodyPost_ret (v := .tuple #[.agg #[.int .i64 k0, .bool b0, .bool n0.neg, .string (txt n0.dig), .int .i64 n0.exp, .string (txt t0), .slice pk lk ck, .slice ak lv cc], .int .i64 ek]) (by simp [results, Tryz.results46, go_sem, d0, d1, d2, d3, d4, d5, d6, d7]) rfl ?_
  exact HT.out
end Go.Proofs.YtlfbnfphocpgeaaGreatDoor.Jdec
namespace Go.Proofs.YtlfbnfphocpgeaaGreatDoor.Utf
open Go.RowKit Kit Go.Shelf
attribute [local go_sem] Oper.semAt_some
theorem grown_of_below {w w' : World} (h : Below w.heap.size w w') : w.grownBy w' none := ⟨h.os, h.tape, h.output, h.size, fun k hk _ => h.block k hk⟩
def encs (x : Nat × Nat) : Array Value := #[.int .i64 x.1, .int .i64 x.2]
/-- What a round must keep: what lay below n₀, and the box in which the string lies. -/
def Kept (n₀ Bn : Nat) (A B : World) : Prop := Below n₀ A B ∧ B.heap[Bn]? = A.heap[Bn]?
theorem Kept.refl (n₀ Bn : Nat) (A : World) : Kept n₀ Bn A A := ⟨Below.refl _ _, rfl⟩
theorem Kept.trans {n₀ Bn : Nat} {A B C : World} (h : Kept n₀ Bn A B) (k : Kept n₀ Bn B C) : Kept n₀ Bn A C := ⟨h.1.trans k.1, k.2.trans h.2⟩
theorem Kept.of_below {n₀ Bn : Nat} {A B : World} (h : Below A.heap.size A B) (hn : n₀ ≤ A.heap.size) (hB : Bn < A.heap.size) : Kept n₀ Bn A B := ⟨h.mono hn, h.block _ hB⟩
theorem keptK_b {n₀ Bn : Nat} {w : World} (hn : n₀ ≤ w.heap.size) (hB : Bn < w.heap.size) (W : World) (l : Nat) (o o' : Obj) (hl : w.heap.size ≤ l) (h : W.heap[l]? = some o) (h1 : o.isCells = false) (h2 : o.isWalk = false) : Kept n₀ Bn W (W.putObj l o') :=
  ⟨belowK_b hn W l o o' hl h h1 h2, (grownBy_putObj' W l o').block Bn (by have := (Array.getElem?_eq_some_iff.1 h).1; omega) (fun e => by cases e; omega)⟩
set_option maxRecDepth 100000 in
set_option maxHeartbeats 2000000 in
/-- The same, each element with the fact that it is one of those that are told: whatever the loop's body does, so long as it keeps what lay below n₀ and the string's box. -/
theorem all1_sub (n : Nat) (hn : 1 ≤ n) (l Bn n₀ : Nat) (s : ByteArray) (hs : s.size < 4611686018427387904) (J Jx : List {x // x ∈ all s.data.toList} → World → Prop)
    (W : World) (hBn : W.heap[Bn]? = some (.cells #[.string s] 9 (0, 0))) (hl : Laid W) (hg : 5 < n₀) (hW : n₀ ≤ W.heap.size) (hJ : AbidesFrom W.heap.size J)
    (hY : ∀ pre x W1, J pre W1 → pre.length < (all s.data.toList).length → YieldAt Fence.wide (n - 1) Tryz.prog l (encs x.val) W1 fun e W' =>
      (e = .returned (.bool true) ∧ J (pre ++ [x]) W' ∧ Kept n₀ Bn W1 W') ∨ (e = .returned (.bool false) ∧ Jx (pre ++ [x]) W'))
    (h0 : J [] W) :
    CallsIn Fence.wide n Tryz.prog 182 #[.func (.yield l) #[] #[], .pointer (some ⟨Bn, 0, none⟩)] W fun e W' => (∃ v, e = .returned v) ∧
      ((∃ ys, ys.map Subtype.val = all s.data.toList ∧ J ys W') ∨ (∃ pre, pre.map Subtype.val <+: all s.data.toList ∧ Jx pre W')) := by
  have hlen : s.data.toList.length = s.size := by simp
  refine callsIn_of_wp Tryz.func182 rfl trivial ?_ rfl
  simp only [Tryz.ntmps182, List.size_toArray, List.length_cons, List.length_nil, Nat.reduceAdd, Nat.reduceSub, Array.replicate_succ, Array.replicate_zero, List.push_toArray, List.append_toArray, List.nil_append, List.cons_append]
  gi_wp2
  gi_loopw [3] (fun i wr => ∃ (k : Nat) (pre : List {x // x ∈ all s.data.toList}), k ≤ s.size ∧ i = .int .i64 k ∧ all s.data.toList = pre.map Subtype.val ++ (scan k (s.data.toList.drop k)).1 ∧ Kept n₀ Bn W wr ∧ J pre wr)
    (fun i _ => s.size - (intOf i).toNat)
  case atStart =>
    exact ⟨0, [], Nat.zero_le _, rfl, rfl, Kept.refl _ _ _, h0⟩
  case round =>
    obtain ⟨k, pre, hk, rfl, hall, hbel, hJs⟩ := hrel
    have hlr := hl.below hbel.1 hg
    have hcs : wr.cell? ⟨Bn, 0, none⟩ = some (.string s) := cell_of (hbel.2.trans hBn) 0
    have hBw : Bn < wr.heap.size := lt_of_heap (hbel.2.trans hBn)
    by_cases hlt : k < s.size
    · have hks : (k : Int) < (s.size : Int) := by omega
      have hx : 0 < (s.extract k s.size).size := by simp; omega
      have hd := decode_any hx hlr
      rw [extract_rest] at hd
      rcases scan_at (l := s.data.toList) (by omega : k < s.data.toList.length) with ⟨z0, hr⟩ | ⟨z0, z1, z2, hr⟩
      · rw [hr] at hall
        gi_wp2_with (refine ⟨trivial, ?_⟩; gi_at_call 170; refine (callsIn_wide.2 hd).mono ?_; rintro e w1 ⟨rfl, b1⟩)
        refine ⟨fun _ h => (by cases h), ?_⟩
        gi_wp2
        refine bodyPost_ret (results_none rfl _ _ _) rfl ?_
        exact ⟨⟨_, rfl⟩, .inl ⟨pre, by rw [List.append_nil] at hall; exact hall.symm, hJ _ _ _ _ hJs (grown_of_below b1) (fun r e => by cases e)⟩⟩
      · rw [hr] at hall
        have hpl : pre.length < (all s.data.toList).length := by
          have := congrArg List.length hall
          simp only [List.length_append, List.length_map, List.length_cons] at this
          omega
        have hmem : (k, (one (s.data.toList.drop k)).1) ∈ all s.data.toList := by rw [hall]; simp
        have hA := Lib.hid hall
        clear hall
        gi_wp2_with (refine ⟨trivial, ?_⟩; gi_at_call 170; refine (callsIn_wide.2 hd).mono ?_; rintro e w1 ⟨rfl, b1⟩; have hJ1 : J pre w1 := hJ _ _ _ _ hJs (grown_of_below b1) (fun r e => by cases e); obtain ⟨fn, tmps, assign, body, hy, hR⟩ := hY pre ⟨(k, (one (s.data.toList.drop k)).1), hmem⟩ w1 hJ1 hpl; dsimp only [encs] at hy)
        refine hR.mono ?_
        rintro e W3 (⟨rfl, hJ3, hk3⟩ | ⟨rfl, hJx3⟩)
        · gi_wp2
          go_roundw
          case rel => exact ⟨k + (one (s.data.toList.drop k)).2, pre ++ [⟨(k, (one (s.data.toList.drop k)).1), hmem⟩], by omega, by go_num, by rw [List.map_append, List.append_assoc]; exact hA.out, hbel.trans ((Kept.of_below b1 (Nat.le_trans hW hbel.1.size) hBw).trans hk3), hJ3⟩
          case measure => simp [intOf]; omega
        · gi_wp2
          refine bodyPost_ret (results_none rfl _ _ _) rfl ?_
          exact ⟨⟨_, rfl⟩, .inr ⟨pre ++ [⟨(k, (one (s.data.toList.drop k)).1), hmem⟩], ⟨_, by rw [List.map_append, List.append_assoc]; exact hA.out.symm⟩, hJx3⟩⟩
    · obtain rfl : k = s.size := by omega
      have e0 : s.data.toList.drop s.size = [] := List.drop_eq_nil_of_le (by omega)
      rw [e0, scan_nil, List.append_nil] at hall
      gi_wp2
      go_end0
      exact ⟨⟨_, rfl⟩, .inl ⟨pre, hall.symm, hJs⟩⟩
set_option maxHeartbeats 1000000 in
/-- All: the string is boxed, and the function value holds the box. -/
theorem all_any (n : Nat) (s : ByteArray) (w : World) :
    CallsIn Fence.wide n Tryz.prog 153 #[.string s] w fun e w' => e = .returned (.func (.func 182) #[] #[.pointer (some ⟨w.heap.size, 0, none⟩)]) ∧ w.alloc (.cells #[.string s] 9) = w' := by
  refine callsIn_of_wp Tryz.func153 rfl trivial ?_ rfl
  simp only [Tryz.ntmps153, List.size_toArray, List.length_cons, List.length_nil, Nat.reduceAdd, Nat.reduceSub, Array.replicate_succ, Array.replicate_zero, List.push_toArray, List.append_toArray, List.nil_append, List.cons_append]
  gi_wp2
  go_ret
  exact ⟨rfl, rfl⟩
/-- All the same, over the elements that are told indeed. -/
theorem all_stops_sub (n : Nat) (hn : 1 ≤ n) (Bn n₀ : Nat) (s : ByteArray) (hs : s.size < 4611686018427387904) (w : World) (hn₀ : n₀ ≤ w.heap.size) (hg : 5 < n₀) (hl : Laid w)
    (hc : w.heap[Bn]? = some (.cells #[.string s] 9 (0, 0))) :
    SeqStopsK Fence.wide n Tryz.prog 182 #[.pointer (some ⟨Bn, 0, none⟩)] (fun x : {x // x ∈ all s.data.toList} => encs x.val) (Kept n₀ Bn) (fun ys => ys.map Subtype.val = all s.data.toList) (fun pre => pre.map Subtype.val <+: all s.data.toList) (all s.data.toList).length w := fun l J Jx W hW hJ _ hY h0 =>
  all1_sub n hn l Bn n₀ s hs J Jx W ((hW.block _ (lt_of_heap hc)).trans hc) (hl.below hW hl.lt) hg (Nat.le_trans hn₀ hW.size) hJ hY h0
/-- A scalar's place lies within. -/
theorem scan_place : ∀ (m : Nat) (l : List UInt8), l.length = m → ∀ (p : Nat), ∀ x ∈ (scan p l).1, x.1 < p + l.length := by
  intro m
  induction m using Nat.strongRecOn with
  | ind m ih =>
    intro l hl p x hx
    rcases scan_cases l with rfl | ⟨hne, h0⟩ | ⟨d, r, hd, rfl, ho, hr⟩
    · rw [scan_nil] at hx
      simp at hx
    · rw [scan_bad hne h0] at hx
      simp at hx
    · rw [scan_enc hd r] at hx
      have hl4 := enc_len (c := d)
      rw [List.length_append] at hl ⊢
      rcases List.mem_cons.1 hx with rfl | hx
      · dsimp only
        omega
      · have := ih r.length (by omega) r rfl _ x hx
        omega
theorem all_place {l : List UInt8} {x : Nat × Nat} (h : x ∈ all l) : x.1 < l.length := by
  have := scan_place l.length l rfl 0 x h
  omega
end Go.Proofs.YtlfbnfphocpgeaaGreatDoor.Utf
namespace Go.Proofs.YtlfbnfphocpgeaaGreatDoor.Quo
open Go.RowKit Kit Txt Utf Go.Shelf
attribute [local go_sem] Oper.semAt_some
set_option maxHeartbeats 1000000 in
theorem asItIs_any {w : World} {c : Nat} {x : Int} (hx : x = (c : Int)) : Calls Tryz.prog 145 #[.int .i64 x] w fun e w' => e = .returned (.bool (decide (AsIs c))) ∧ w' = w := by
  subst hx
  by_cases h1 : 32 ≤ c
  · have d1 : (32 : Int) ≤ c := by omega
    by_cases h2 : c = 34
    · subst h2
      go_enter Tryz.func145, Tryz.ntmps145
      go_wp2_with fail
      go_ret
      exact ⟨rfl, rfl⟩
    have d2 : ((c : Int) != 34) = true := by simp; omega
    by_cases h3 : c = 92
    · subst h3
      go_enter Tryz.func145, Tryz.ntmps145
      go_wp2_with fail
      go_ret
      exact ⟨rfl, rfl⟩
    have d3 : ((c : Int) != 92) = true := by simp; omega
    rw [decide_eq_true (show AsIs c from ⟨h1, h2, h3⟩)]
    clear h1 h2 h3
    go_enter Tryz.func145, Tryz.ntmps145
    go_wp2_with fail
    go_ret
    exact ⟨rfl, rfl⟩
  · have d1 : decide ((32 : Int) ≤ c) = false := by simp; omega
    rw [decide_eq_false (show ¬ AsIs c from fun h => h1 h.1)]
    clear h1
    go_enter Tryz.func145, Tryz.ntmps145
    go_wp2_with fail
    go_ret
    exact ⟨rfl, rfl⟩
theorem ownFrom_grown {β : Type} {R B : Nat} {w : World} (hB : w.heap.size ≤ B) : OwnFrom B (fun (_ : β) W => w.grownBy W (some R)) :=
  fun _ X Y row hs hg hr => ⟨hg.os.trans hs.os, hg.tape.trans hs.tape, hg.output.trans hs.output, Nat.le_trans hs.size hg.size, fun k hk hne =>
    (hg.block k (Nat.lt_of_lt_of_le hk hs.size) (fun e => by have := (hr k e.symm).1; omega)).trans (hs.block k hk hne)⟩
/-- The last one's place. -/
def lastK {l : List UInt8} (q : List {x // x ∈ all l}) : Nat := match q.getLast? with
  | some x => x.val.1
  | none => 0
theorem lastK_app {l : List UInt8} (q : List {x // x ∈ all l}) (x : {x // x ∈ all l}) : lastK (q ++ [x]) = x.val.1 := by unfold lastK; rw [List.getLast?_append]; rfl
theorem grown_set {a b : World} {row : Option Nat} {g : Nat} (h : a.grownBy b row) (hg : a.heap.size ≤ g) (v : Value) : a.grownBy (b.setCell ⟨g, 0, none⟩ v) row :=
  ⟨h.os, h.tape, h.output, Nat.le_trans h.size (KeepsWalks.setCell b _ v).size, fun k hk hr => (Below.heap_setCell _ _ _ k (fun e => by have : k = g := e; omega)).trans (h.block k hk hr)⟩
theorem grown_put {a b : World} {row : Option Nat} {g : Nat} (h : a.grownBy b row) (hg : a.heap.size ≤ g) (o : Obj) : a.grownBy (b.putObj g o) row :=
  ⟨(grownBy_putObj' b g o).os.trans h.os, (grownBy_putObj' b g o).tape.trans h.tape, (grownBy_putObj' b g o).output.trans h.output, Nat.le_trans h.size (grownBy_putObj' b g o).size,
    fun k hk hr => ((grownBy_putObj' b g o).block k (Nat.lt_of_lt_of_le hk h.size) (fun e => by cases e; omega)).trans (h.block k hk hr)⟩
theorem grown_drew {a b : World} {row : Option Nat} (h : a.grownBy b row) : a.grownBy b.drew row := ⟨h.os, h.tape, h.output, h.size, h.block⟩
theorem grown_of {a b : World} {row : Option Nat} (h : Below a.heap.size a b) : a.grownBy b row := ⟨h.os, h.tape, h.output, h.size, fun k hk _ => h.block k hk⟩
/-- What plain tells. -/
def Plain (R : Nat) (l : List UInt8) (w : World) (e : Ending) (w' : World) : Prop := w.grownBy w' (some R) ∧
  ((∃ k c r, k ≤ l.length ∧ l.drop k = UInt8.ofNat c :: r ∧ ¬ AsIs c ∧ (∀ s at', scanF s at' l = scanF (s ++ l.take k) (at' + k) (l.drop k)) ∧ e = .returned (.string (txt (l.take k))) ∧ Rdr R (l.drop k) w') ∨
   (∃ q, q ≠ 0 ∧ (∀ s at', scanF s at' l = err q) ∧ e = thrown q))
set_option maxRecDepth 100000 in
set_option maxHeartbeats 4000000 in
theorem mplain_any {w : World} {R : Nat} {l : List UInt8} (hl : l.length < 1000000000) (hT : Laid w) (h : Rdr R l w) :
    Calls Tryz.prog 124 #[rp R] w (Plain R l w) := by
  have hs := txt_size l
  have hgl := hT.lt
  have hR := lt_of_heap h
  refine (callsIn_wide (n := 5)).1 ?_
  refine callsIn_of_wp_marks Tryz.func124 rfl trivial ?_ rfl
  unfold rp
  simp only [Tryz.ntmps124, List.size_toArray, List.length_cons, List.length_nil, Nat.reduceAdd, Nat.reduceSub, Array.replicate_succ, Array.replicate_zero, List.push_toArray, List.append_toArray, List.nil_append, List.cons_append]
  have hc := cell_of h 0
  have bP := Boxed.new w 153 (rp R)
  have bO := Boxed.new (w.alloc (.cells #[rp R] 153)) 9 (.string (txt []))
  have bN := Boxed.new ((w.alloc (.cells #[rp R] 153)).alloc (.cells #[.string (txt [])] 9)) 9 (.string (txt l))
  rw [World.size_alloc] at bO bN
  rw [World.size_alloc] at bN
  have ht0 : (⟨#[]⟩ : ByteArray) = txt [] := rfl
  gi_wp2_with (refine ⟨trivial, ?_⟩; gi_at_call 153; refine (all_any 4 _ _).mono ?_; rintro e w2 ⟨rfl, rfl⟩)
  obtain ⟨wl, hwl⟩ : ∃ wl, ((w.alloc (.cells #[.pointer (some ⟨R, 0, none⟩)] 153)).alloc (.cells #[.string (txt [])] 9)).alloc (.cells #[.string (txt l)] 9) = wl := ⟨_, rfl⟩
  have hsz : wl.heap.size = w.heap.size + 3 := by rw [← hwl]; simp
  have hB0 : Below w.heap.size w wl := by rw [← hwl]; exact (((Below.refl _ w).alloc (Nat.le_refl _) _).alloc (by simp) _).alloc (by simp; omega) _
  have bP' : Boxed wl w.heap.size 153 (rp R) := by rw [← hwl]; exact (bP.alloc _).alloc _
  have bO' : Boxed wl (w.heap.size + 1) 9 (.string (txt [])) := by rw [← hwl]; exact bO.alloc _
  have bN' : Boxed wl (w.heap.size + 1 + 1) 9 (.string (txt l)) := by rw [← hwl]; exact bN
  rw [hwl]
  clear bP bO bN hwl
  have hlist : (txt l).data.toList = l := txt_list l
  have hst := all_stops_sub 4 (by omega) (w.heap.size + 1 + 1) w.heap.size (txt l) (by omega) wl (by omega) hgl (hT.below hB0 hgl) bN'
  rw [hlist] at hst
  refine wpIn_rangeFunc_ownG rfl (by omega) (gf := 182) (lb := #[.pointer (some ⟨w.heap.size + 1 + 1, 0, none⟩)]) rfl trivial (enters_of Tryz.func182 (by kernel_rfl) rfl)
    hst Kept.trans (keptK_b (by omega) (by omega)) (Below.refl _ _) (fun _ => rfl)
    (fun (pre : List {x // x ∈ all l}) W => (Boxed W w.heap.size 153 (rp R) ∧ Boxed W (w.heap.size + 1) 9 (.string (txt [])) ∧ Boxed W (w.heap.size + 1 + 1) 9 (.string (txt l))) ∧ Below w.heap.size w W ∧ ∀ x ∈ pre, AsIs x.val.2)
    (fun c (q : List {x // x ∈ all l}) W => Boxed W (w.heap.size + 1) 9 (.string (txt (l.take (lastK q)))) ∧ Boxed W R 126 (.string (txt (l.drop (lastK q)))) ∧ w.grownBy W (some R) ∧ (c = .ret ∧ ∃ p x, q = p ++ [x] ∧ (∀ y ∈ p, AsIs y.val.2) ∧ ¬ AsIs x.val.2))
    (OwnFrom.and (OwnFrom.and (Own.from (boxed_own w.heap.size 153 (fun _ => rp R)) _) (OwnFrom.and (Own.from (boxed_own (w.heap.size + 1) 9 (fun _ => .string (txt []))) _) (Own.from (boxed_own (w.heap.size + 1 + 1) 9 (fun _ => .string (txt l))) _)))
      (OwnFrom.and (ownFrom_below (Nat.le_refl _) (by omega)) (ownFrom_pure _ (fun pre : List {x // x ∈ all l} => ∀ x ∈ pre, AsIs x.val.2))))
    (fun c => OwnFrom.and (Own.from (boxed_own (w.heap.size + 1) 9 (fun q => .string (txt (l.take (lastK q))))) _) (OwnFrom.and (Own.from (boxed_own R 126 (fun q => .string (txt (l.drop (lastK q))))) _) (OwnFrom.and (ownFrom_grown (by omega)) (ownFrom_pure _ (fun q : List {x // x ∈ all l} => c = Code.ret ∧ ∃ p x, q = p ++ [x] ∧ (∀ y ∈ p, AsIs y.val.2) ∧ ¬ AsIs x.val.2)))))
    ⟨⟨bP', bO', bN'⟩, hB0, by simp⟩
    (fun x => { tmps := #[.pointer (some ⟨R, 0, none⟩), .pointer (some ⟨w.heap.size, 0, none⟩), .pointer (some ⟨w.heap.size + 1, 0, none⟩), .int .i64 x.val.1, .int .i64 x.val.2, undef, .pointer (some ⟨R, 0, none⟩), .pointer (some ⟨R, 0, none⟩), .pointer (some ⟨R, 0, none⟩), .string (txt l),
      .func (.func 182) #[] #[.pointer (some ⟨w.heap.size + 1 + 1, 0, none⟩)], .int .i64 x.val.1, .int .i64 x.val.2, undef, undef, undef, undef, undef, undef, undef, undef, undef, undef, undef, undef, undef, undef, undef, undef, undef, undef, undef, undef, undef, undef, undef, undef, undef, undef, undef], defers := [] }) ?assign ?body ?done ?stop
  case assign =>
    intro ll x W K hK
    simp [encs]
    gi_wp2
    exact hK
  case body =>
    rintro ll pre x W ⟨⟨hP, hO, hN⟩, hB, hpre⟩ hlt
    obtain ⟨⟨k, c⟩, hx⟩ := x
    dsimp only
    have hca := asItIs_any (w := W) (c := c) (x := (c : Int)) rfl
    have hcP := hP.cell
    have hRW := h.below hB hR
    unfold rp at hcP
    by_cases hA : AsIs c
    · rw [decide_eq_true hA] at hca
      gi_wp2_with (refine ⟨trivial, ?_⟩; gi_at_call 145; refine (CallsIn.inRound ll (callsIn_wide.2 hca)).mono ?_; rintro e w1 ⟨rfl, rfl⟩)
      refine ⟨KeepsFrom.refl _ _, Kept.refl _ _ _, ⟨hP, hO, hN⟩, hB, ?_⟩
      intro y hy
      rcases List.mem_append.1 hy with hy | hy
      · exact hpre y hy
      · rw [List.mem_singleton.1 hy]
        exact hA
    · rw [decide_eq_false hA] at hca
      have hcR := cell_of hRW 0
      have hfR := free_of hRW 0
      have hcO := hO.cell
      have hfO := hO.frozen
      have hk : k ≤ l.length := Nat.le_of_lt (all_place hx)
      have hsl1 := fun wx => slH (l := l) (z := (k : Int)) (k := k) rfl hk wx
      have hsl2 := fun wx => slL (l := l) (z := (k : Int)) (k := k) rfl hk wx
      have hmo : Tryz.prog.follows .mixedOrders = true := by kernel_rfl
      have hb := hB.size
      gi_wp2_with (refine ⟨trivial, ?_⟩; gi_at_call 145; refine (CallsIn.inRound ll (callsIn_wide.2 hca)).mono ?_; rintro e w1 ⟨rfl, rfl⟩)
      gi_region_with_o fail
      gi_wp2
      all_goals
        refine ⟨((KeepsOthers.setCell _ _ _).trans ((KeepsOthers.setCell _ _ _).trans (KeepsOthers.drew _))).from _, ?_, ?_, ?_, rfl, pre, ⟨(k, c), hx⟩, rfl, hpre, hA⟩
        · rw [lastK_app]
          exact (hO.other (B' := R) (by omega) _).set _
        · rw [lastK_app]
          exact (Boxed.set (.string (txt (l.drop k))) hRW).other (by omega) _
        · exact grown_drew (grown_set (grownBy.trans (grown_of hB) (grownBy_setCell' _ _ _)) (by omega) _)
  case done =>
    rintro D ys W hD hys ⟨⟨hP, hO, hN⟩, hB, hpre⟩ hK
    have hall : ∀ x ∈ all l, AsIs x.2 := by
      intro x hx
      rw [← hys] at hx
      obtain ⟨y, hy, rfl⟩ := List.mem_map.1 hx
      exact hpre y hy
    have hth := all_thro hall
    have hcP := hP.cell
    unfold rp at hcP
    have hcR := cell_of (h.below hB hR) 0
    have hv := valid_any (w := W) (s := txt l) (by omega) (hT.below hB hgl)
    rw [hlist] at hv
    have hDw : w.heap.size ≤ D := by omega
    by_cases hb : bad l = none
    · rw [decide_eq_true ((badI_neg _).2 hb)] at hv
      simp only [if_pos hb] at hth
      clear hall hpre hys hb
      gi_wp2_with (refine ⟨trivial, ?_⟩; gi_at_call 112; refine (callsIn_wide.2 hv).mono ?_; rintro e w1 ⟨rfl, b1⟩)
      have hK1 : w1.heap[D]? = some (.deferred (some [])) := (b1.block D (lt_of_heap hK)).trans hK
      refine ⟨by simp, .inl ⟨_, _, rfl, run_takeDeferred hK1, ?_⟩⟩
      exact ⟨grown_put (grown_of (hB.trans (b1.mono hB.size))) hDw _, .inr ⟨2, by decide, hth, rfl⟩⟩
    · rw [decide_eq_false (fun h => hb ((badI_neg _).1 h))] at hv
      simp only [if_neg hb] at hth
      clear hall hpre hys hb
      gi_wp2_with (refine ⟨trivial, ?_⟩; gi_at_call 112; refine (callsIn_wide.2 hv).mono ?_; rintro e w1 ⟨rfl, b1⟩)
      have hK1 : w1.heap[D]? = some (.deferred (some [])) := (b1.block D (lt_of_heap hK)).trans hK
      refine ⟨by simp, .inl ⟨_, _, rfl, run_takeDeferred hK1, ?_⟩⟩
      exact ⟨grown_put (grown_of (hB.trans (b1.mono hB.size))) hDw _, .inr ⟨7, by decide, hth, rfl⟩⟩
  case stop =>
    rintro D cd q W hD hp ⟨hO, hRd, hg, rfl, p, x, rfl, hpre, hx⟩ hK
    rw [lastK_app] at hO hRd
    obtain ⟨⟨k, c⟩, hm⟩ := x
    dsimp only at *
    have htill : k ≤ l.length ∧ (∃ r, l.drop k = UInt8.ofNat c :: r) ∧ ∀ s at', scanF s at' l = scanF (s ++ l.take k) (at' + k) (l.drop k) := by
      obtain ⟨t, ht⟩ := hp
      rw [List.map_append, List.append_assoc] at ht
      refine all_till (pre := p.map Subtype.val) (c := c) (suf := t) ht.symm ?_ hx
      intro y hy
      obtain ⟨z, hz, rfl⟩ := List.mem_map.1 hy
      exact hpre z hz
    obtain ⟨h1, ⟨r, h2⟩, h3⟩ := htill
    gi_wp2
    refine ⟨by simp, .inl ⟨_, _, rfl, run_takeDeferred hK, ?_⟩⟩
    have hO' := (Boxed.kept hO (grownBy_putObj' W D (.deferred none)) (by simp; omega)).cell
    refine ⟨.string (txt (l.take k)), by simp [results, Tryz.results124, go_sem, hO'], ?_⟩
    exact ⟨grown_put hg (by omega) _, .inl ⟨k, c, r, h1, h2, hx, h3, rfl, Boxed.kept hRd (grownBy_putObj' W D _) (by simp; omega)⟩⟩
end Go.Proofs.YtlfbnfphocpgeaaGreatDoor.Quo
namespace Go.Proofs.YtlfbnfphocpgeaaGreatDoor.Bld
open Go.RowKit Kit Txt
/-- The builder in block b, all its blocks from B on, holds l. -/
def Bld (B b : Nat) (l : List UInt8) (w : World) : Prop := B ≤ w.heap.size ∧ Lib.IsBuilder 62 5 B b (Lib.byteCells l) w
theorem Bld.new (w : World) : Bld w.heap.size w.heap.size [] (w.alloc (.cells #[.pointer none, .slice none 0 0] 62)) :=
  ⟨by simp, Lib.fresh_isBuilder _ _ _⟩
theorem at_kept {T e : TypeId} {B b : Nat} {p : Value} {bs : List Value} {w w' : World} (h : Lib.BuilderAt T e B b p bs w) (k : Below w.heap.size w w') : Lib.BuilderAt T e B b p bs w' := by
  have hlt := h.lt
  obtain ⟨hB, v, hb, hown, hne⟩ := h
  refine ⟨hB, v, (k.block b hlt).trans hb, hown.kept (row := none) ⟨k.os, k.tape, k.output, k.size, fun i hi _ => k.block i hi⟩ ?_, hne⟩
  cases hv : v.ownBlock with
  | none => exact .inl rfl
  | some g => exact .inr (by simp)
theorem Bld.kept {B b : Nat} {l : List UInt8} {w w' : World} (h : Bld B b l w) (k : Below w.heap.size w w') : Bld B b l w' :=
  ⟨Nat.le_trans h.1 k.size, h.2.elim (fun h => .inl (at_kept h k)) (fun h => .inr (at_kept h k))⟩
/-- A step that turns one block that lies below the builder's. -/
theorem Bld.other {B b R : Nat} {l : List UInt8} {w w' : World} (h : Bld B b l w) (k : w.grownBy w' (some R)) (hR : R < B) : Bld B b l w' := by
  have one : ∀ p, Lib.BuilderAt 62 5 B b p (Lib.byteCells l) w → Lib.BuilderAt 62 5 B b p (Lib.byteCells l) w' := by
    intro p h
    have hlt := h.lt
    obtain ⟨hB, v, hb, hown, hne⟩ := h
    refine ⟨hB, v, (k.block b hlt (fun e => by cases e; omega)).trans hb, hown.kept k ?_, hne⟩
    rcases hown.2 with ⟨rfl, _⟩ | ⟨g, cap, cur, rfl, hg, _⟩
    · exact .inl rfl
    · refine .inr fun e => ?_
      have e' : g = R := by simpa [Value.ownBlock] using e
      omega
  exact ⟨Nat.le_trans h.1 k.size, h.2.elim (fun h => .inl (one _ h)) (fun h => .inr (one _ h))⟩
theorem Bld.lt {B b : Nat} {l : List UInt8} {w : World} (h : Bld B b l w) : B ≤ b ∧ b < w.heap.size := h.2.elim (fun h => ⟨h.1, h.lt⟩) (fun h => ⟨h.1, h.lt⟩)
theorem cells_app (l m : List UInt8) : Lib.byteCells l ++ Lib.byteCells m = Lib.byteCells (l ++ m) := by simp [Lib.byteCells]
theorem str_any {B b : Nat} {l m : List UInt8} {w : World} (h : Bld B b l w) (hl : l.length < 1000000) (hm : m.length < 1000000) :
    Calls Tryz.prog 108 #[.pointer (some ⟨b, 0, none⟩), .string (txt m)] w fun e w' => e = .returned (.tuple #[.int .i64 (m.length : Int), .nilIface]) ∧ Bld B b (l ++ m) w' ∧ Below B w w' := by
  refine (Tryz.Builder_WriteString B b (Lib.byteCells l) (txt m) w h.2 (by rw [Lib.byteCells_length, txt_size]; omega) h.1).mono ?_
  rintro e w' ⟨he, hb, k⟩
  rw [txt_size] at he
  refine ⟨he, ⟨Nat.le_trans h.1 k.size, .inr ?_⟩, k⟩
  rw [← cells_app]
  exact hb
theorem string_any {B b : Nat} {l : List UInt8} {w : World} (h : Bld B b l w) :
    Calls Tryz.prog 30 #[.pointer (some ⟨b, 0, none⟩)] w fun e w' => e = .returned (.string (txt l)) ∧ Below B w w' := Tryz.Builder_String_any B b l w h.2 h.1
end Go.Proofs.YtlfbnfphocpgeaaGreatDoor.Bld
namespace Go.Proofs.YtlfbnfphocpgeaaGreatDoor.Quo
open Go.RowKit Kit Txt Utf Bld
theorem grown_below {a b c : World} {row : Option Nat} (h : a.grownBy b row) (k : Below a.heap.size b c) : a.grownBy c row :=
  ⟨k.os.trans h.os, k.tape.trans h.tape, k.output.trans h.output, Nat.le_trans h.size k.size, fun i hi hr => (k.block i hi).trans (h.block i hi hr)⟩
theorem laid_grown {w w' : World} {R : Nat} (h : Laid w) (k : w.grownBy w' (some R)) (hR : 5 < R) : Laid w' := by
  obtain ⟨t, f, h0⟩ := h
  exact ⟨t, f, (k.block _ (lt_of_heap h0) (fun e => by cases e; omega)).trans h0⟩
/-- How much is left. -/
def leftN (R : Nat) (wx : World) : Nat := match wx.cell? ⟨R, 0, none⟩ with
  | some (.string s) => s.size
  | _ => 0
theorem leftN_of {R : Nat} {l : List UInt8} {wx : World} (h : Rdr R l wx) : leftN R wx = l.length := by
  unfold leftN
  rw [cell_of h 0]
  exact txt_size l
theorem scan_want (l : List UInt8) : (wantE 34 l ≠ 0 ∧ scan l = err (wantE 34 l)) ∨ (∃ r, l = 34 :: r ∧ wantE 34 l = 0 ∧ scan l = scanF [] 1 r) := by
  cases l with
  | nil => exact .inl ⟨by decide, rfl⟩
  | cons c r =>
    by_cases h : c = 34
    · subst h
      exact .inr ⟨r, rfl, rfl, rfl⟩
    · have e : wantE 34 (c :: r) = 3 := if_neg h
      refine .inl ⟨by rw [e]; decide, ?_⟩
      rw [e]
      exact if_pos h
theorem not_asIs {c : Nat} (h : ¬ AsIs c) : UInt8.ofNat c = 34 ∨ UInt8.ofNat c = 92 ∨ (UInt8.ofNat c).toNat < 32 := by
  unfold AsIs at h
  by_cases h1 : c = 34
  · exact .inl (by rw [h1]; rfl)
  by_cases h2 : c = 92
  · exact .inr (.inl (by rw [h2]; rfl))
  · exact .inr (.inr (by rw [nbc (by omega)]; omega))
/-- What text tells. -/
def Text (R : Nat) (l : List UInt8) (w : World) (e : Ending) (w' : World) : Prop := w.grownBy w' (some R) ∧
  (((scan l).e = 0 ∧ e = .returned (.string (txt (scan l).s)) ∧ ∃ rest, Rdr R rest w' ∧ rest.length + (scan l).size = l.length) ∨ ((scan l).e ≠ 0 ∧ e = thrown (scan l).e))
set_option maxRecDepth 100000 in
set_option maxHeartbeats 4000000 in
theorem mtext_any {w : World} {R : Nat} {l : List UInt8} (hl : l.length < 100000) (hT : Laid w) (hRg : 5 < R) (h : Rdr R l w) :
    Calls Tryz.prog 92 #[rp R] w (Text R l w) := by
  have hR := lt_of_heap h
  have hb0 := Bld.new w
  have g0 : w.grownBy (w.alloc (.cells #[.pointer none, .slice none 0 0] 62)) (some R) := World.grownBy_alloc w _ _
  have h0 : Rdr R l (w.alloc (.cells #[.pointer none, .slice none 0 0] 62)) := new_of h _
  have hw := mwant_any (c := 34) (x := 34) h0 rfl
  have hp := fun wx rx (hx : Rdr R rx wx) (hr : rx.length < 1000000000) (ht : Laid wx) => mplain_any hr ht hx
  have hs := fun wx a b (hx : Bld w.heap.size w.heap.size a wx) (ha : a.length < 1000000) (hb : b.length < 1000000) => str_any hx ha (m := b) hb
  have hn := fun wx c r (hx : Rdr R (c :: r) wx) => next_cons hx
  have he := fun wx r (hx : Rdr R r wx) => mescaped_any hx
  have hst := fun wx a (hx : Bld w.heap.size w.heap.size a wx) => string_any hx
  unfold rp at *
  rcases scan_want l with ⟨hwe, hsc⟩ | ⟨r0, rfl, hwe, hsc⟩
  · have hS := Lib.hid hsc
    clear hsc hp hs hn he hst
    go_enter Tryz.func92, Tryz.ntmps92
    go_wp2_with fail
    refine hw.mono ?_
    rintro e w1 ⟨k1, (⟨hk, -, -⟩ | ⟨hk, rfl⟩)⟩
    · exact absurd hk hwe
    refine ⟨rfl, grownBy.trans g0 k1, .inr ?_⟩
    rw [hS.out]
    exact ⟨hk, rfl⟩
  rw [hwe] at hw
  have hS := Lib.hid hsc
  clear hwe
  clear hsc
  go_enter Tryz.func92, Tryz.ntmps92
  go_wp2_with fail
  refine hw.mono ?_
  rintro e w1 ⟨k1, (⟨-, rfl, h1⟩ | ⟨hk, -⟩)⟩
  case inr => exact absurd rfl hk
  have hb1 := Bld.other hb0 k1 hR
  have g1 := grownBy.trans g0 k1
  rw [List.tail_cons] at h1
  clear hw hb0 h0 g0 k1
  go_wp2_with fail
  go_loopw [6] (fun _ wr => ∃ (s rest : List UInt8) (at' : Nat), Rdr R rest wr ∧ Bld w.heap.size w.heap.size s wr ∧ w.grownBy wr (some R) ∧ scanF s at' rest = scan (34 :: r0) ∧ at' + rest.length = (34 :: r0).length ∧ s.length ≤ 4 * at') (fun _ wr => leftN R wr)
  case atStart => exact ⟨[], r0, 1, h1, hb1, g1, hS.out.symm, by simp; omega, by simp⟩
  case round =>
    clear h1 hb1 g1
    obtain ⟨s, rest, at', hRd, hBl, hg, hF, hat, hsl⟩ := hrel
    have hle := leftN_of hRd
    have hF' := Lib.hid hF
    clear hF
    go_wp2_with fail
    refine (hp _ _ hRd (by omega) (laid_grown hT hg hRg)).mono ?_
    rintro e w2 ⟨k2, (⟨k, c, r, hk, hdk, hA, hsc, rfl, h2⟩ | ⟨q, hq, hsc, rfl⟩)⟩
    case inr =>
      refine ⟨rfl, grownBy.trans hg k2, .inr ?_⟩
      have : scan (34 :: r0) = err q := hF'.out.symm.trans (hsc s at')
      rw [this]
      exact ⟨hq, rfl⟩
    have hb2 := Bld.other hBl k2 hR
    have g2 := grownBy.trans hg k2
    have hF2 := Lib.hid (hF'.out.symm.trans (hsc s at'))
    rw [hdk] at h2
    have hdl : rest.length = k + (r.length + 1) := by
      have := congrArg List.length hdk
      rw [List.length_drop, List.length_cons] at this
      omega
    go_wp2_with fail
    refine (hs _ _ _ hb2 (by omega) (by rw [List.length_take]; omega)).mono ?_
    rintro e w3 ⟨rfl, hb3, k3⟩
    have h3 := h2.below k3 hR
    have g3 := grown_below g2 k3
    rcases not_asIs hA with hb | hb | hb
    · rw [hb] at h3 hdk
      have hF3 : scan (34 :: r0) = ⟨s ++ rest.take k, at' + k + 1, 0⟩ := by
        rw [hF2.out, hdk]
        exact scanF_end rfl
      have hF4 := Lib.hid hF3
      clear hF3 he hp hs
      go_wp2_with fail
      refine (hn _ _ _ h3).mono ?_
      rintro e w4 ⟨rfl, h4, k4⟩
      have hb4 := Bld.other hb3 k4 hR
      have g4 := grownBy.trans g3 k4
      go_wp2_with fail
      refine (hst _ _ hb4).mono ?_
      rintro e w5 ⟨rfl, k5⟩
      go_wp2_with fail
      go_ret
      refine ⟨grown_below g4 k5, .inl ?_⟩
      rw [hF4.out]
      exact ⟨rfl, rfl, r, h4.below k5 hR, by show r.length + (at' + k + 1) = _; omega⟩
    · rw [hb] at h3 hdk
      have hF3 := hF2.out
      rw [hdk] at hF3
      have hdr := fun wx (hx : Rdr R r wx) => he wx r hx
      have hok := fun (h : (part (92 :: r)).e = 0) => part_ok h
      by_cases hpe : (part (92 :: r)).e = 0
      · rw [scanF_on (by simp) hpe] at hF3
        obtain ⟨c', e1, e2, e3, e4⟩ := hok hpe
        rw [hpe] at hdr
        have hl4 := (enc_len (c := c')).2
        rw [← e2] at hl4
        rw [List.length_cons] at e4
        have hdl2 : ((92 :: r).drop (part (92 :: r)).size).length = r.length + 1 - (part (92 :: r)).size := by rw [List.length_drop, List.length_cons]
        generalize part (92 :: r) = p at *
        have hF4 := Lib.hid hF3
        clear hF3 hok hpe e1 e2
        generalize (92 :: r).drop p.size = rest2 at *
        go_wp2_with fail
        refine (hn _ _ _ h3).mono ?_
        rintro e w4 ⟨rfl, h4, k4⟩
        have hb4 := Bld.other hb3 k4 hR
        have g4 := grownBy.trans g3 k4
        go_wp2_with fail
        refine (hdr _ h4).mono ?_
        rintro e w5 ⟨k5, (⟨-, rfl, h5⟩ | ⟨hk, -⟩)⟩
        case inr => exact absurd rfl hk
        have hb5 := Bld.other hb4 k5 hR
        have g5 := grownBy.trans g4 k5
        go_wp2_with fail
        refine (hs _ _ _ hb5 (by rw [List.length_append, List.length_take]; omega) (by omega)).mono ?_
        rintro e w6 ⟨rfl, hb6, k6⟩
        have h6 := h5.below k6 hR
        have hle6 := leftN_of h6
        go_wp2_with fail
        go_roundw
        case rel => exact ⟨s ++ rest.take k ++ p.s, rest2, at' + k + p.size, h6, hb6, grown_below g5 k6, hF4.out.symm, by omega, by rw [List.length_append, List.length_append, List.length_take]; omega⟩
        case measure => rw [hle6, hle]; omega
      · rw [scanF_err (by simp) hpe] at hF3
        generalize part (92 :: r) = p at *
        have hF4 := Lib.hid hF3
        clear hF3 hok hs hp
        go_wp2_with fail
        refine (hn _ _ _ h3).mono ?_
        rintro e w4 ⟨rfl, h4, k4⟩
        have g4 := grownBy.trans g3 k4
        go_wp2_with fail
        refine (hdr _ h4).mono ?_
        rintro e w5 ⟨k5, (⟨hk, -, -⟩ | ⟨hk, rfl⟩)⟩
        · exact absurd hk hpe
        refine ⟨rfl, grownBy.trans g4 k5, .inr ?_⟩
        rw [hF4.out]
        exact ⟨hk, rfl⟩
    · have hF3 := hF2.out
      rw [hdk] at hF3
      generalize UInt8.ofNat c = b at *
      have hp3 : part (b :: r) = err 3 := if_pos hb
      have h34 : ((b.toNat : Int) == 34) = false := by simp; omega
      have h92 : ((b.toNat : Int) == 92) = false := by simp; omega
      rw [scanF_err (by simp; rintro rfl; revert hb; decide) (by rw [hp3]; decide), hp3] at hF3
      have hF4 := Lib.hid hF3
      clear hF3 hs hp he hp3
      go_wp2_with fail
      refine (hn _ _ _ h3).mono ?_
      rintro e w4 ⟨rfl, h4, k4⟩
      have g4 := grownBy.trans g3 k4
      go_wp2_with fail
      refine ⟨rfl, g4, .inr ?_⟩
      rw [hF4.out]
      exact ⟨by decide, rfl⟩
end Go.Proofs.YtlfbnfphocpgeaaGreatDoor.Quo
namespace Go.Proofs.YtlfbnfphocpgeaaGreatDoor.Quo
open Go.RowKit Kit Txt Utf Bld
theorem run_assert (v : Value) (w : World) : (Instr.typeAssert (.iface 33 v) 20 33 false).run Tryz.prog w = .ok v w := by
  simp [Instr.typeAssert, run_underlying Tryz.underlying33]
set_option maxRecDepth 100000 in
theorem caught {E : Nat} {k : Nat} {older : List PanicEntry} {x : Int} {w : World} (h : w.heap[E]? = some (.cells #[.int .i64 x] 33 (0, 0))) :
    CallsD Tryz.prog 91 #[.pointer (some ⟨E, 0, none⟩)] (.panicking ({ v := .iface 33 (.int .i64 k), recovered := false } :: older)) w fun e u' w' =>
      e = .returned (.tuple #[]) ∧ u' = .panicking ({ v := .iface 33 (.int .i64 k), recovered := true } :: older) ∧ w' = w.setCell ⟨E, 0, none⟩ (.int .i64 k) := by
  have hc := cell_of h 0
  have hf := free_of h 0
  refine callsD_of_wpS Tryz.func91 rfl fun c₀ cs hu => ?_
  apply wpS_seq
  apply wpS_region
  simp [wpOpsS, go_sem, recoverD, hu, Tryz.ntmps91, Exit.thenS]
  apply wpS_seq
  apply wpS_region
  simp [wpOpsS, go_sem, Exit.thenS]
  refine wpS_cond (t := true) (by simp [Act.eval, Array.replicate]) ?_
  simp only [if_true]
  apply wpS_region
  simp [wpOpsS, go_sem, run_assert, hc, hf, bodyPostS, results, Tryz.results91]
theorem idle {E : Nat} {w : World} :
    CallsD Tryz.prog 91 #[.pointer (some ⟨E, 0, none⟩)] .returning w fun e u' w' => e = .returned (.tuple #[]) ∧ u' = .returning ∧ w' = w := by
  refine callsD_of_wpS Tryz.func91 rfl fun c₀ cs hu => ?_
  apply wpS_seq
  apply wpS_region
  simp [wpOpsS, go_sem, recoverD, hu, Tryz.ntmps91, Exit.thenS]
  apply wpS_seq
  apply wpS_region
  simp [wpOpsS, go_sem, Exit.thenS]
  refine wpS_cond (t := false) (by simp [Act.eval, Array.replicate]) ?_
  simp only [Bool.false_eq_true, if_false]
  refine wpS_of_wp (wp_skip ?_)
  cases c₀
  simp_all [bodyPostS, results, Tryz.results91]
set_option maxRecDepth 100000 in
set_option maxHeartbeats 2000000 in
theorem qscan_laid {w : World} {l : List UInt8} (hl : l.length < 100000) (hT : Laid w) :
    Calls Tryz.prog 65 #[.string (txt l)] w fun e w' => e = .returned (.tuple #[.string (txt (scan l).s), .int .i64 ((scan l).size : Int), .int .i64 ((scan l).e : Int)]) ∧ Below w.heap.size w w' := by
  have hmf : ∀ (fn : Fn) (first cap : Array Value) (w : World), (Instr.makeFunc fn first cap).run Tryz.prog w = .ok (.func fn first cap) w := fun _ _ _ _ => rfl
  have h1 : Rdr (w.heap.size + 1) l ((w.alloc (.cells #[.int .i64 0] 33)).alloc (.cells #[.string (txt l)] 126)) := by
    have := World.alloc_heap_new (w.alloc (.cells #[.int .i64 0] 33)) (.cells #[.string (txt l)] 126)
    rwa [World.size_alloc] at this
  have hE : ((w.alloc (.cells #[.int .i64 0] 33)).alloc (.cells #[.string (txt l)] 126)).heap[w.heap.size]? = some (.cells #[.int .i64 0] 33 (0, 0)) := new_of (World.alloc_heap_new w _) _
  have hB : Below w.heap.size w ((w.alloc (.cells #[.int .i64 0] 33)).alloc (.cells #[.string (txt l)] 126)) := ((Below.refl _ w).alloc (Nat.le_refl _) _).alloc (by simp) _
  have hT1 : Laid ((w.alloc (.cells #[.int .i64 0] 33)).alloc (.cells #[.string (txt l)] 126)) := hT.below hB hT.lt
  have ht := mtext_any hl hT1 (by have := hT.lt; omega) h1
  unfold rp at ht
  unfold Text at ht
  have hs := txt_size l
  have hmo : Tryz.prog.follows .mixedOrders = true := by kernel_rfl
  have hno := fun (h : (scan l).e ≠ 0) => scan_err_nil h
  generalize scan l = p at *
  go_enter_defers Tryz.func65, Tryz.ntmps65
  go_wp2_with fail
  refine ht.mono ?_
  rintro e w1 ⟨k1, (⟨hz, rfl, rest, hR, hlen⟩ | ⟨hz, rfl⟩)⟩
  · have hE1 : w1.heap[w.heap.size]? = some (.cells #[.int .i64 0] 33 (0, 0)) := (k1.block _ (lt_of_heap hE) (by simp)).trans hE
    have hcR := cell_of hR 0
    have hcE := cell_of hE1 0
    have hfE := free_of hE1 0
    have hsr := txt_size rest
    have wz : IntKind.i64.wrap ((l.length : Int) - (rest.length : Int)) = (p.size : Int) := by simp only [IntKind.wrap, IntKind.signed, IntKind.bits]; simp; omega
    have ht0 : (⟨#[]⟩ : ByteArray) = txt [] := rfl
    clear hno ht h1 hT1
    go_wp2_with fail
    go_region
    all_goals
      go_wp2_with fail
      refine leaves_cons (f := 91) (args := #[.pointer (some ⟨w.heap.size, 0, none⟩)]) (by simp) (by simp [go_sem]) ?_
      refine idle.mono ?_
      rintro e u' w'' ⟨rfl, rfl, rfl⟩
      refine ⟨.tuple #[.string (txt p.s), .int .i64 (p.size : Int), .int .i64 0], by simp [results, Tryz.results65, go_sem, hcE], ?_⟩
      rw [hz]
      exact ⟨rfl, below_drewN ((Below.trans hB ⟨k1.os, k1.tape, k1.output, Nat.le_trans (by have := hB.size; omega) k1.size, fun k hk => k1.block k (by have := hB.size; omega) (fun e => by cases e; omega)⟩).setCell (p := ⟨w.heap.size, 0, none⟩) (Nat.le_refl _) _) 1⟩
  · have hE1 : w1.heap[w.heap.size]? = some (.cells #[.int .i64 0] 33 (0, 0)) := (k1.block _ (lt_of_heap hE) (by simp)).trans hE
    have hp := hno hz
    obtain ⟨ps, pz, pe⟩ := p
    injection hp with e1 e2
    subst e1; subst e2
    clear hno
    dsimp only at *
    refine leaves_cons (f := 91) (args := #[.pointer (some ⟨w.heap.size, 0, none⟩)]) (by simp) (by simp [go_sem]) ?_
    refine (caught hE1).mono ?_
    rintro e u' w'' ⟨rfl, rfl, rfl⟩
    have hE2 := cell_of (set_of hE1 0 (.int .i64 (pe : Int))) 0
    have hbz : Below w.heap.size w (w1.setCell ⟨w.heap.size, 0, none⟩ (.int .i64 (pe : Int))) := (Below.trans hB ⟨k1.os, k1.tape, k1.output, Nat.le_trans (by have := hB.size; omega) k1.size, fun k hk => k1.block k (by have := hB.size; omega) (fun e => by cases e; omega)⟩).setCell (p := ⟨w.heap.size, 0, none⟩) (Nat.le_refl _) _
    have ht0 : (⟨#[]⟩ : ByteArray) = txt [] := rfl
    refine ⟨.tuple #[.string (txt []), .int .i64 0, .int .i64 (pe : Int)], by simp [results, Tryz.results65, go_sem, hE2, ht0], rfl, hbz⟩
end Go.Proofs.YtlfbnfphocpgeaaGreatDoor.Quo
namespace Go.Proofs.YtlfbnfphocpgeaaGreatDoor.Jdec
open Go.RowKit Kit Txt
open Utf (nb)
open Tre (Val HoldF zeroV)
theorem below_grown {w w' : World} {row : Option Nat} (h : Below w.heap.size w w') : w.grownBy w' row := grown_below (World.grownBy.refl w row) h
theorem below_step {w a b : World} (h : Below w.heap.size w a) (k : Below a.heap.size a b) : Below w.heap.size w b := h.trans (k.mono h.size)
theorem laid_below {w w' : World} (h : Utf.Laid w) (k : Below w.heap.size w w') : Utf.Laid w' := Utf.Laid.below h k (Utf.Laid.lt h)
set_option maxRecDepth 100000 in
set_option maxHeartbeats 8000000 in
theorem mquoted_any {w : World} {R : Nat} {s : List UInt8} {q : Nat} {o : Int} {u : Value} (hs : s.length < 100000) (hq : q ≤ s.length) (ht : Utf.Laid w) (h : Rdr R s q o u w) :
    Calls Tryz.prog 42 #[rp R] w (Told R s u o w (text (s.drop q))) := by
  have hz := txt_size s
  have hR := lt_of_heap h
  have hB := World.alloc_heap_new w (.cells #[.int .i64 0, .bool false, .bool false, .string ⟨#[]⟩, .int .i64 0, .string ⟨#[]⟩, .slice none 0 0, .slice none 0 0] 29)
  have bA : Below w.heap.size w (w.alloc (.cells #[.int .i64 0, .bool false, .bool false, .string ⟨#[]⟩, .int .i64 0, .string ⟨#[]⟩, .slice none 0 0, .slice none 0 0] 29)) := (Below.refl _ w).alloc (Nat.le_refl _) _
  obtain ⟨W, hW⟩ : ∃ W, w.alloc (.cells #[.int .i64 0, .bool false, .bool false, .string ⟨#[]⟩, .int .i64 0, .string ⟨#[]⟩, .slice none 0 0, .slice none 0 0] 29) = W := ⟨_, rfl⟩
  rw [hW] at hB bA
  have hA := h.below bA
  have hRW := lt_of_heap hA
  obtain ⟨c0, c1, c2, c3⟩ := four hA
  have hsl := slL (l := s) (z := (q : Int)) rfl hq
  have hdl : (s.drop q).length < 100000 := by rw [List.length_drop]; omega
  have hdq := drop_at hq
  have hdz := List.length_drop (l := s) (i := q)
  have hsc := fun wx (hb : Below W.heap.size W wx) => Quo.qscan_laid (w := wx) hdl (laid_below ht (bA.trans (hb.mono bA.size)))
  have hnum : text (s.drop q) = text (s.drop q) := rfl
  conv at hnum => rhs; unfold text
  have hdd : (s.drop q).drop (Quo.scan (s.drop q)).size = s.drop (q + (Quo.scan (s.drop q)).size) := by rw [List.drop_drop]
  rw [hdd] at hnum
  have hok := fun (h : (Quo.scan (s.drop q)).e = 0) => (scan_ok h).2.2
  generalize hl : s.drop q = l at *
  generalize Quo.scan l = p at *
  obtain ⟨st, n, ee⟩ := p
  dsimp only at *
  generalize hgn : text l = g at *
  have bq0 := drew_below W
  have HW := Lib.hid hW
  unfold rp
  by_cases h0 : ee = 0
  · subst h0
    rw [if_neg (by simp)] at hnum
    have hnl := hok rfl
    have hqn : q + n ≤ s.length := by omega
    have hwq : IntKind.i64.wrap ((q : Int) + (n : Int)) = (q : Int) + (n : Int) := by
      simp only [IntKind.wrap, IntKind.signed, IntKind.bits]; simp; omega
    have hdq2 := drop_at hqn
    have HN := Lib.hid hnum
    have HQ := Lib.hid hdq2
    have H := Lib.hid hA
    have HS := Lib.hid hsc
    clear hnum hdq hdq2 hok hdd hgn ht h hdz hl hA hsc hW hdl
    go_enter Tryz.func42, Tryz.ntmps42
    go_wp2_with fail
    rw [HW.out]
    go_region_held3 (fun wx => wx.cell? ⟨R, 0, none⟩ = some (.string (txt s)) ∧ wx.cell? ⟨R, 1, none⟩ = some (.int .i64 q))
      (first | assumption | go_keep)
      (first | (go_at_call 65; refine (HS.out _ (by assumption)).mono ?_; rintro e wx ⟨rfl, kx⟩; have bq := below_step (w := W) (by assumption) kx; have m0 := (bq.cell (p := ⟨R, 0, none⟩) hRW).trans c0; have m1 := (bq.cell (p := ⟨R, 1, none⟩) hRW).trans c1))
    have b2 := bA.trans (bq.mono bA.size)
    have hB2 := (bq.block _ (lt_of_heap hB)).trans hB
    have H2 := H.out.below bq
    clear c0 c1 c2 c3 m0 m1
    obtain ⟨c0, c1, c2, c3⟩ := four H2
    have hf := free_of H2 1
    have hlt2 := lt_of_heap hB2
    have hR2 := lt_of_heap H2
    have hne : ¬ w.heap.size = R := by omega
    obtain ⟨e0, e1, e2, e3, e4, e5, e6, e7⟩ := eight hB2
    obtain ⟨f0, f1, f2, f3, f4, f5, f6, f7⟩ := free8 hB2
    have r1 : Rdr R s (q + n) o u (wx.setCell ⟨R, 1, none⟩ (.int .i64 ((q : Int) + (n : Int)))) := H2.goes (q + n)
    have k3 := grown_cell wx R 1 (.int .i64 ((q : Int) + (n : Int)))
    have hB3 := kept_of hB2 k3 hne
    have hB4 := store8 hB3 (.int .i64 4) (.bool false) (.bool false) (.string ⟨#[]⟩) (.int .i64 0) (.string (txt st)) (.slice none 0 0) (.slice none 0 0)
    have k4 := grown8 (wx.setCell ⟨R, 1, none⟩ (.int .i64 ((q : Int) + (n : Int)))) w.heap.size (.int .i64 4) (.bool false) (.bool false) (.string ⟨#[]⟩) (.int .i64 0) (.string (txt st)) (.slice none 0 0) (.slice none 0 0)
    have g5 := grown_on (grown_trans (below_grown (row := some R) b2) k3) k4 (Nat.le_refl _)
    have r5 := r1.kept k4 (by simp; omega)
    have HB := Lib.hid hB4
    have HG := Lib.hid g5
    have HR := Lib.hid r5
    clear hB hB2 hB3 hB4 k3 k4 g5 r5 r1
    go_wp2_with fail
    obtain ⟨d0, d1, d2, d3, d4, d5, d6, d7⟩ := eight HB.out
    refine bodyPost_ret (v := .tuple #[.agg #[.int .i64 4, .bool false, .bool false, .string ⟨#[]⟩, .int .i64 0, .string (txt st), .slice none 0 0, .slice none 0 0], .int .i64 0]) (by simp [results, Tryz.results42, go_sem, d0, d1, d2, d3, d4, d5, d6, d7]) rfl ?_
    exact .ok HN.out HQ.out HG.out (flat_hold 4 false Num.zero st _ _) HR.out
  · rw [if_pos h0] at hnum
    have h0' : (((ee : Nat) : Int) != 0) = true := by simpa using h0
    have HN := Lib.hid hnum
    have HQ := Lib.hid hdq
    have H := Lib.hid hA
    have HS := Lib.hid hsc
    clear hnum hdq hok h0 hdd hgn ht h hdz hl hA hsc hW hdl
    go_enter Tryz.func42, Tryz.ntmps42
    go_wp2_with fail
    rw [HW.out]
    go_region_held3 (fun wx => wx.cell? ⟨R, 0, none⟩ = some (.string (txt s)) ∧ wx.cell? ⟨R, 1, none⟩ = some (.int .i64 q))
      (first | assumption | go_keep)
      (first | (go_at_call 65; refine (HS.out _ (by assumption)).mono ?_; rintro e wx ⟨rfl, kx⟩; have bq := below_step (w := W) (by assumption) kx; have m0 := (bq.cell (p := ⟨R, 0, none⟩) hRW).trans c0; have m1 := (bq.cell (p := ⟨R, 1, none⟩) hRW).trans c1))
    have b2 := bA.trans (bq.mono bA.size)
    have hB2 := (bq.block _ (lt_of_heap hB)).trans hB
    have H2 := H.out.below bq
    clear c0 c1 c2 c3 m0 m1
    obtain ⟨e0, e1, e2, e3, e4, e5, e6, e7⟩ := eight hB2
    obtain ⟨f0, f1, f2, f3, f4, f5, f6, f7⟩ := free8 hB2
    have hB4 := store8 hB2 (.int .i64 0) (.bool false) (.bool false) (.string ⟨#[]⟩) (.int .i64 0) (.string ⟨#[]⟩) (.slice none 0 0) (.slice none 0 0)
    have k4 := grown8 wx w.heap.size (.int .i64 0) (.bool false) (.bool false) (.string ⟨#[]⟩) (.int .i64 0) (.string ⟨#[]⟩) (.slice none 0 0) (.slice none 0 0)
    have g5 := grown_on (below_grown (row := some R) b2) k4 (Nat.le_refl _)
    have r5 := H2.kept k4 (by simp; omega)
    have HB := Lib.hid hB4
    have HG := Lib.hid g5
    have HR := Lib.hid r5
    clear hB hB2 hB4 k4 g5 r5 H2
    go_wp2_with fail
    obtain ⟨d0, d1, d2, d3, d4, d5, d6, d7⟩ := eight HB.out
    refine bodyPost_ret (v := .tuple #[zeroV, .int .i64 ee]) (by simp [results, Tryz.results42, go_sem, zeroV, d0, d1, d2, d3, d4, d5, d6, d7]) rfl ?_
    exact .no HN.out HQ.out HG.out HR.out
end Go.Proofs.YtlfbnfphocpgeaaGreatDoor.Jdec
namespace Go.Proofs.YtlfbnfphocpgeaaGreatDoor.Quo
open Utf
theorem scanF_step {s l l' : List UInt8} {at' : Nat} {p : Part} (h : l.head? ≠ some 34) (hp : part l = p) (he : p.e = 0) (hd : l.drop p.size = l') : scanF s at' l = scanF (s ++ p.s) (at' + p.size) l' := by
  subst hp; subst hd
  exact scanF_on h he
/-- What is told of bytes is no longer than so. -/
theorem scanF_len : ∀ (k : Nat) (l : List UInt8), l.length = k → ∀ (s : List UInt8) (at' : Nat), (scanF s at' l).s.length ≤ s.length + 4 * l.length := by
  intro k
  induction k using Nat.strongRecOn with
  | ind k ih =>
    intro l hl s at'
    by_cases h1 : l.head? = some 34
    · rw [scanF_end h1]
      dsimp only
      omega
    · by_cases he : (part l).e = 0
      · rw [scanF_on h1 he]
        obtain ⟨c, k1, k2, k3, k4⟩ := part_ok he
        have := ih (l.drop (part l).size).length (by rw [List.length_drop]; omega) _ rfl (s ++ (part l).s) (at' + (part l).size)
        have he4 := (enc_len (c := c)).2
        have e2 := congrArg List.length k2
        rw [List.length_append, List.length_drop] at this
        omega
      · rw [scanF_err h1 he]
        exact Nat.zero_le _
theorem scan_len (l : List UInt8) : (scan l).s.length ≤ 4 * l.length := by
  unfold scan
  split
  · exact Nat.zero_le _
  · split
    · exact Nat.zero_le _
    · rename_i c r _
      have := scanF_len r.length r rfl [] 1
      simp only [List.length_nil, List.length_cons] at *
      omega
end Go.Proofs.YtlfbnfphocpgeaaGreatDoor.Quo
namespace Go.Proofs.YtlfbnfphocpgeaaGreatDoor.Tre
open Go.RowKit Kit Txt Go.Maps
theorem keyedS : Keyed Tryz.prog 9 := string_keyed Tryz.underlying9
theorem key_txt {l : List UInt8} (hl : l.length < 1000000000) : keyOf Tryz.prog 9 (.string (txt l)) = some (.string l) := by
  have h := WideMaps.keyOf_string_mk (P := Tryz.prog) (k := 9) Tryz.underlying9 (s := txt l) (by rw [txt_size]; unfold maxLen; omega)
  rwa [txt_list] at h
set_option maxRecDepth 100000 in
theorem plain_bool_inv {v : Value} {b : Bool} {ps : List MemPlace} (h : plainElem (H := Unit) Tryz.prog 4 v = some (.lit (.bool b), ps)) : v = .bool b := by
  unfold plainElem at h
  rw [Tryz.underlying4] at h
  cases v <;> simp_all
/-- The set of the first j keys. -/
def Seen (w : World) (b j : Nat) (ks : List (List UInt8)) : Prop :=
  ∃ D : DataW Unit, w.ownsMap Tryz.prog 9 (plainElem Tryz.prog 4) b j D ∧ ∀ l : List UInt8, l.length < 1000000000 → D.atKey (.string l) (.lit (.bool false)) = .lit (.bool (decide (l ∈ ks.take j)))
theorem Seen.made (w : World) (ks : List (List UInt8)) : Seen (w.alloc (.map #[] 0)) w.heap.size 0 ks := by
  refine ⟨.map [], World.ownsMap_made _ _ _ _, fun l _ => ?_⟩
  simp [DataW.atKey]
theorem Seen.look {w : World} {b j : Nat} {ks : List (List UInt8)} (h : Seen w b j ks) {l : List UInt8} (hl : l.length < 1000000000) (hz : (zeroValue 4).run Tryz.prog w = .ok (.bool false) w) : (Instr.lookup 95 (.map (some b)) (.string (txt l)) false).run Tryz.prog w = .ok (.bool (decide (l ∈ ks.take j))) w := by
  obtain ⟨D, hown, hD⟩ := h
  obtain ⟨v, ps, hrun, hv⟩ := hown.lookup keyedS Tryz.underlying95 hz (plainElem_bool Tryz.underlying4 false) (key_txt hl)
  rw [hD l hl] at hv
  rw [hrun, plain_bool_inv hv]
theorem Seen.put {w : World} {b j : Nat} {ks : List (List UInt8)} (h : Seen w b j ks) (hj : j < ks.length) (hn : ks.length ≤ 9223372036854775807) (hl : ks[j].length < 1000000000) : ∃ w', (Instr.mapUpdate 95 (.map (some b)) (.string (txt ks[j])) (.bool true)).run Tryz.prog w = .ok () w' ∧ Seen w' b (j + 1) ks ∧ w.grownBy w' (some b) := by
  obtain ⟨D, hown, hD⟩ := h
  obtain ⟨w', hrun, hown', hg⟩ := hown.update keyedS Tryz.underlying95 (by unfold maxLen; omega) (key_txt hl) (plainElem_bool Tryz.underlying4 true)
  refine ⟨w', hrun, ⟨_, hown', fun l hll => ?_⟩, hg⟩
  rw [List.take_succ_eq_append_getElem hj]
  by_cases e : l = ks[j]
  · subst e
    rw [atKey_put_same hown.isMap (keyedS.key (key_txt hl)), decide_eq_true (List.mem_append.2 (.inr (List.mem_singleton.2 rfl)))]
  · rw [atKey_put_other (fun h => e (by injection h)), hD l hll, decide_eq_decide.2 ⟨fun h => List.mem_append.2 (.inl h), fun h => (List.mem_append.1 h).resolve_right fun h => e (List.mem_singleton.1 h)⟩]
theorem Seen.grown {w w' : World} {b j : Nat} {ks : List (List UInt8)} (h : Seen w b j ks) (hg : Below w.heap.size w w') : Seen w' b j ks := by
  obtain ⟨D, ⟨es, clock, hb, rest⟩, hD⟩ := h
  exact ⟨D, ⟨es, clock, (hg.block _ (lt_of_heap hb)).trans hb, rest⟩, hD⟩
end Go.Proofs.YtlfbnfphocpgeaaGreatDoor.Tre
namespace Go.Proofs.YtlfbnfphocpgeaaGreatDoor.Jdec
open Go.RowKit Kit Txt
open Utf (nb)
open Tre (Seen)
/-- Of the blocks that were there those of that kind alone have turned. -/
structure Off (X : Nat → Prop) (a b : World) : Prop where
  os : b.os = a.os
  tape : b.tape = a.tape
  output : b.output = a.output
  size : a.heap.size ≤ b.heap.size
  block : ∀ i, i < a.heap.size → ¬ X i → b.heap[i]? = a.heap[i]?
theorem Off.refl (X : Nat → Prop) (a : World) : Off X a a := ⟨rfl, rfl, rfl, Nat.le_refl _, fun _ _ _ => rfl⟩
theorem Off.trans {X : Nat → Prop} {a b c : World} (h : Off X a b) (k : Off X b c) : Off X a c :=
  ⟨k.os.trans h.os, k.tape.trans h.tape, k.output.trans h.output, Nat.le_trans h.size k.size, fun i hi hx => (k.block i (Nat.lt_of_lt_of_le hi h.size) hx).trans (h.block i hi hx)⟩
theorem Off.of_grown {X : Nat → Prop} {a b : World} {r : Nat} (k : a.grownBy b (some r)) (hX : X r ∨ a.heap.size ≤ r) : Off X a b :=
  ⟨k.os, k.tape, k.output, k.size, fun i hi hx => k.block i hi fun e => by
    cases e
    rcases hX with h | h
    · exact hx h
    · omega⟩
theorem Off.of_below {X : Nat → Prop} {a b : World} (k : Below a.heap.size a b) : Off X a b := ⟨k.os, k.tape, k.output, k.size, fun i hi _ => k.block i hi⟩
theorem Off.mono {X Y : Nat → Prop} {a b : World} (h : Off X a b) (hXY : ∀ i, i < a.heap.size → X i → Y i) : Off Y a b := ⟨h.os, h.tape, h.output, h.size, fun i hi hy => h.block i hi fun hx => hy (hXY i hi hx)⟩
theorem Off.grown {X : Nat → Prop} {a b : World} {R : Nat} (h : Off X a b) (hX : ∀ i, i < a.heap.size → X i → i = R) : a.grownBy b (some R) :=
  ⟨h.os, h.tape, h.output, h.size, fun i hi hr => h.block i hi fun hx => hr (by rw [hX i hi hx])⟩
theorem Off.at {X : Nat → Prop} {a b : World} {g : Nat} {o : Obj} (h : Off X a b) (hg : a.heap[g]? = some o) (hx : ¬ X g) : b.heap[g]? = some o := (h.block g (lt_of_heap hg) hx).trans hg
theorem seen_other {w w' : World} {b j : Nat} {ks : List (List UInt8)} (h : Seen w b j ks) (e : w'.heap[b]? = w.heap[b]?) : Seen w' b j ks := by
  obtain ⟨D, ⟨es, clock, hb, rest⟩, hD⟩ := h
  exact ⟨D, ⟨es, clock, e.trans hb, rest⟩, hD⟩
theorem seen_lt {w : World} {b j : Nat} {ks : List (List UInt8)} (h : Seen w b j ks) : b < w.heap.size := by
  obtain ⟨D, ⟨es, clock, hb, rest⟩, hD⟩ := h
  exact lt_of_heap hb
theorem seen_ne {w : World} {b j R q : Nat} {ks : List (List UInt8)} {s : List UInt8} {o : Int} {u : Value} (h : Seen w b j ks) (hr : Rdr R s q o u w) : b ≠ R := by
  obtain ⟨D, ⟨es, clock, hb, rest⟩, hD⟩ := h
  rintro rfl
  unfold Rdr at hr
  rw [hr] at hb
  cases hb
theorem seen_more {w : World} {b : Nat} {ks : List (List UInt8)} (h : Seen w b ks.length ks) (k : List UInt8) : Seen w b ks.length (ks ++ [k]) := by
  obtain ⟨D, h1, hD⟩ := h
  refine ⟨D, h1, fun l hl => ?_⟩
  rw [hD l hl, List.take_left, List.take_length]
theorem want_head (c : UInt8) (l : List UInt8) : (wantE c l = 0 ↔ l.head? = some c) ∧ (wantE c l ≠ 0 → ∀ α : Type, (here l : Got α) = .no l (wantE c l)) := by
  cases l with
  | nil => exact ⟨⟨fun h => absurd (show (2 : Nat) = 0 from h) (by decide), fun h => absurd h (by simp)⟩, fun _ _ => rfl⟩
  | cons d r =>
    by_cases h : d = c
    · subst h
      have e : wantE d (d :: r) = 0 := if_pos rfl
      exact ⟨⟨fun _ => rfl, fun _ => e⟩, fun h => absurd e h⟩
    · have e : wantE c (d :: r) = 3 := if_neg h
      refine ⟨⟨fun h2 => ?_, fun h2 => ?_⟩, fun _ _ => ?_⟩
      · rw [e] at h2
        cases h2
      · injection h2 with h2
        exact absurd h2 h
      · rw [e]
        rfl
theorem field_eq (keys : List (List UInt8)) (l : List UInt8) : field keys l =
    if (Quo.scan l).e ≠ 0 then .no l (Quo.scan l).e
    else if (Quo.scan l).s ∈ keys then .no l 6
    else if wantE 58 (skip (l.drop (Quo.scan l).size)) ≠ 0 then .no (skip (l.drop (Quo.scan l).size)) (wantE 58 (skip (l.drop (Quo.scan l).size)))
    else .ok (Quo.scan l).s (skip (skip (l.drop (Quo.scan l).size)).tail) := by
  unfold field
  by_cases h : l.head? = some 34
  · have hn : ¬ (l.head? ≠ some 34) := fun e => e h
    rw [if_neg hn]
    by_cases h1 : (Quo.scan l).e = 0
    · have hn1 : ¬ ((Quo.scan l).e ≠ 0) := fun e => e h1
      rw [if_neg hn1, if_neg hn1]
      by_cases h2 : (Quo.scan l).s ∈ keys
      · rw [if_pos h2, if_pos h2]
      · rw [if_neg h2, if_neg h2]
        by_cases h3 : (skip (l.drop (Quo.scan l).size)).head? = some 58
        · have hn3 : ¬ ((skip (l.drop (Quo.scan l).size)).head? ≠ some 58) := fun e => e h3
          have hn4 : ¬ (wantE 58 (skip (l.drop (Quo.scan l).size)) ≠ 0) := fun e => e ((want_head 58 _).1.2 h3)
          rw [if_neg hn3, if_neg hn4]
        · have h4 : wantE 58 (skip (l.drop (Quo.scan l).size)) ≠ 0 := fun e => h3 ((want_head 58 _).1.1 e)
          rw [if_pos h3, if_pos h4, (want_head 58 _).2 h4]
    · rw [if_pos h1, if_pos h1]
  · rw [if_pos h]
    have e : (Quo.scan l).e = wantE 34 l ∧ wantE 34 l ≠ 0 := by
      cases l with
      | nil => exact ⟨rfl, by decide⟩
      | cons c r =>
        have hc : c ≠ 34 := fun e => h (by rw [e]; rfl)
        have e1 : wantE 34 (c :: r) = 3 := if_neg hc
        have e2 : Quo.scan (c :: r) = Quo.err 3 := if_pos hc
        rw [e1, e2]
        exact ⟨rfl, by decide⟩
    rw [if_pos (by rw [e.1]; exact e.2), e.1, (want_head 34 l).2 e.2]
/-- What key tells. -/
def KeyTold (R M : Nat) (s : List UInt8) (u : Value) (o : Int) (keys : List (List UInt8)) (w : World) (g : Got (List UInt8)) (e : Ending) (w' : World) : Prop :=
  Off (fun i => i = R ∨ i = M) w w' ∧ match g with
  | .ok k r => e = .returned (.tuple #[.string (txt k), .int .i64 0]) ∧ Rdr R s (s.length - r.length) o u w' ∧ Seen w' M (keys.length + 1) (keys ++ [k])
  | .no r n => e = .returned (.tuple #[.string ⟨#[]⟩, .int .i64 n]) ∧ Rdr R s (s.length - r.length) o u w'
theorem KeyTold.ok {R M : Nat} {s : List UInt8} {u : Value} {o : Int} {keys : List (List UInt8)} {w w' : World} {g : Got (List UInt8)} {k r : List UInt8} {q : Nat} (hg : g = .ok k r) (hq : s.length - r.length = q) (h : Off (fun i => i = R ∨ i = M) w w') (hr : Rdr R s q o u w') (hS : Seen w' M (keys.length + 1) (keys ++ [k])) :
    KeyTold R M s u o keys w g (.returned (.tuple #[.string (txt k), .int .i64 0])) w' := by
  subst hg; subst hq
  exact ⟨h, rfl, hr, hS⟩
theorem KeyTold.no {R M : Nat} {s : List UInt8} {u : Value} {o : Int} {keys : List (List UInt8)} {w w' : World} {g : Got (List UInt8)} {r : List UInt8} {q n : Nat} (hg : g = .no r n) (hq : s.length - r.length = q) (h : Off (fun i => i = R ∨ i = M) w w') (hr : Rdr R s q o u w') :
    KeyTold R M s u o keys w g (.returned (.tuple #[.string ⟨#[]⟩, .int .i64 n])) w' := by
  subst hg; subst hq
  exact ⟨h, rfl, hr⟩
set_option maxRecDepth 100000 in
set_option maxHeartbeats 8000000 in
theorem mkey_any {w : World} {R M : Nat} {s : List UInt8} {q : Nat} {o : Int} {u : Value} {keys : List (List UInt8)} (hs : s.length < 100000) (hq : q ≤ s.length) (hk : keys.length < 1000000) (ht : Utf.Laid w) (h : Rdr R s q o u w) (hS : Seen w M keys.length keys) :
    Calls Tryz.prog 63 #[rp R, .map (some M)] w (KeyTold R M s u o keys w (field keys (s.drop q))) := by
  have hz := txt_size s
  have hR := lt_of_heap h
  have hMR := seen_ne hS h
  have hMl := seen_lt hS
  obtain ⟨c0, c1, c2, c3⟩ := four h
  have hsl := slL (l := s) (z := (q : Int)) rfl hq
  have hdl : (s.drop q).length < 100000 := by rw [List.length_drop]; omega
  have hdq := drop_at hq
  have hdz := List.length_drop (l := s) (i := q)
  have hsc := fun wx (hb : Below w.heap.size w wx) => Quo.qscan_laid (w := wx) hdl (laid_below ht hb)
  have hf := field_eq keys (s.drop q)
  have hdd : (s.drop q).drop (Quo.scan (s.drop q)).size = s.drop (q + (Quo.scan (s.drop q)).size) := by rw [List.drop_drop]
  rw [hdd] at hf
  have hok := fun (h : (Quo.scan (s.drop q)).e = 0) => (scan_ok h).2.2
  have hlen := Quo.scan_len (s.drop q)
  generalize hl : s.drop q = l at *
  generalize Quo.scan l = p at *
  obtain ⟨k, n, ee⟩ := p
  dsimp only at *
  generalize hgn : field keys l = g at *
  have bq0 := drew_below w
  unfold rp
  by_cases h0 : ee = 0
  · subst h0
    rw [if_neg (by simp)] at hf
    have hnl := hok rfl
    have hqn : q + n ≤ s.length := by omega
    have hwq : IntKind.i64.wrap ((q : Int) + (n : Int)) = (q : Int) + (n : Int) := by
      simp only [IntKind.wrap, IntKind.signed, IntKind.bits]; simp; omega
    have hlook := fun wx (hb : Below w.heap.size w wx) => (hS.grown (hb.mono (Nat.le_refl _))).look (l := k) (by omega) (by kernel_rfl)
    simp only [List.take_length] at hlook
    by_cases hin : k ∈ keys
    · rw [if_pos hin] at hf
      simp only [hin, decide_true] at hlook
      have HN := Lib.hid hf
      have HQ := Lib.hid hdq
      have HS := Lib.hid hsc
      have H := Lib.hid h
      have HL := Lib.hid hlook
      clear hf hdq hok hdd hgn ht h hdz hl hsc hdl hlook hS hin hlen hk
      go_enter Tryz.func63, Tryz.ntmps63
      go_wp2_with fail
      go_region_held3 (fun wx => wx.cell? ⟨R, 0, none⟩ = some (.string (txt s)) ∧ wx.cell? ⟨R, 1, none⟩ = some (.int .i64 q))
        (first | assumption | go_keep)
        (first | (go_at_call 65; refine (HS.out _ (by assumption)).mono ?_; rintro e wx ⟨rfl, kx⟩; have bq := below_step (w := w) (by assumption) kx; have m0 := (bq.cell (p := ⟨R, 0, none⟩) hR).trans c0; have m1 := (bq.cell (p := ⟨R, 1, none⟩) hR).trans c1))
      have hlk := HL.out wx bq
      clear c0 c1 c2 c3 m0 m1
      go_wp2_with fail
      go_ret2
      exact .no (n := 6) HN.out HQ.out (.of_below bq) (H.out.below bq)
    · rw [if_neg hin] at hf
      simp only [hin, decide_false] at hlook
      have hput := fun wx (hb : Below w.heap.size w wx) => Tre.Seen.put (seen_more (hS.grown (hb.mono (Nat.le_refl _))) k) (by simp) (by simp; omega) (by simp; omega)
      simp only [List.getElem_concat_length] at hput
      have hq2 := skipAt_le s (q + n)
      have hd2 := skipAt_drop (l := s) (i := q + n)
      rw [← hd2] at hf
      have hsk := fun wx (hr : Rdr R s (q + n) o u wx) => mskip_any (w := wx) hs hqn hr
      generalize skipAt s (q + n) = q2 at *
      have hwt := fun wx (hr : Rdr R s q2 o u wx) => want_any (w := wx) (c := 58) (x := 58) hs hq2 hr rfl
      by_cases he : wantE 58 (s.drop q2) = 0
      · have hlq : q2 < s.length := by
          by_cases h : q2 < s.length
          · exact h
          · rw [want_past (by omega)] at he
            cases he
        have hsk2 := fun wx (hr : Rdr R s (q2 + 1) o u wx) => mskip_any (w := wx) hs (by omega) hr
        have hd3 := skipAt_drop (l := s) (i := q2 + 1)
        rw [if_neg (by simpa using he), List.tail_drop, ← hd3] at hf
        have hdq3 := drop_at (skipAt_le s (q2 + 1))
        simp only [wantQ, he, if_true] at hwt
        have HN := Lib.hid hf
        have HQ := Lib.hid hdq3
        have HS := Lib.hid hsc
        have H := Lib.hid h
        have HL := Lib.hid hlook
        have HP := Lib.hid hput
        have HK := Lib.hid hsk
        have HK2 := Lib.hid hsk2
        have HW := Lib.hid hwt
        have HM := Lib.hid hMR
        clear hf hdq hdq3 hok hdd hgn ht h hdz hl hsc hdl hlook hS hin hlen hk hput hsk hsk2 hwt hMR hd2 hd3 he
        unfold rp at HK HK2 HW
        go_enter Tryz.func63, Tryz.ntmps63
        go_wp2_with fail
        go_region_held3 (fun wx => wx.cell? ⟨R, 0, none⟩ = some (.string (txt s)) ∧ wx.cell? ⟨R, 1, none⟩ = some (.int .i64 q))
          (first | assumption | go_keep)
          (first | (go_at_call 65; refine (HS.out _ (by assumption)).mono ?_; rintro e wx ⟨rfl, kx⟩; have bq := below_step (w := w) (by assumption) kx; have m0 := (bq.cell (p := ⟨R, 0, none⟩) hR).trans c0; have m1 := (bq.cell (p := ⟨R, 1, none⟩) hR).trans c1))
        have hlk := HL.out wx bq
        obtain ⟨w2, hrun, hS2, hg2⟩ := HP.out wx bq
        clear c0 c1 c2 c3 m0 m1
        have h2 := (H.out.below bq).kept hg2 (by have := HM.out; simp; omega)
        obtain ⟨c0, c1, c2, c3⟩ := four h2
        have hf1 := free_of h2 1
        have r3 : Rdr R s (q + n) o u (w2.setCell ⟨R, 1, none⟩ (.int .i64 ((q : Int) + (n : Int)))) := h2.goes (q + n)
        have x3 : Off (fun i => i = R ∨ i = M) w (w2.setCell ⟨R, 1, none⟩ (.int .i64 ((q : Int) + (n : Int)))) := ((Off.of_below bq).trans (.of_grown hg2 (.inl (.inr rfl)))).trans (.of_grown (grown_cell w2 R 1 _) (.inl (.inl rfl)))
        have s3 := seen_other hS2 ((grown_cell w2 R 1 (.int .i64 ((q : Int) + (n : Int)))).block M (seen_lt hS2) (by have := HM.out; simp; omega))
        have HX := Lib.hid x3
        have HR := Lib.hid r3
        have HS3 := Lib.hid s3
        clear x3 r3 s3 hS2 hg2
        go_wp2_with fail
        refine (HK.out _ HR.out).mono ?_
        rintro e w4 ⟨rfl, r4, g4⟩
        have x4 := HX.out.trans (.of_grown g4 (.inl (.inl rfl)))
        have s4 := seen_other HS3.out (g4.block M (seen_lt HS3.out) (by have := HM.out; simp; omega))
        have HX4 := Lib.hid x4
        have HR4 := Lib.hid r4
        have HS4 := Lib.hid s4
        clear x4 r4 s4 g4 HX HR HS3 c0 c1 c2 c3 hf1 h2 hrun
        go_wp2_with fail
        refine (HW.out _ HR4.out).mono ?_
        rintro e w5 ⟨rfl, r5, g5⟩
        have x5 := HX4.out.trans (.of_grown g5 (.inl (.inl rfl)))
        have s5 := seen_other HS4.out (g5.block M (seen_lt HS4.out) (by have := HM.out; simp; omega))
        have HX5 := Lib.hid x5
        have HR5 := Lib.hid r5
        have HS5 := Lib.hid s5
        clear x5 r5 s5 g5
        go_wp2_with fail
        refine (HK2.out _ HR5.out).mono ?_
        rintro e w6 ⟨rfl, r6, g6⟩
        have x6 := HX5.out.trans (.of_grown g6 (.inl (.inl rfl)))
        have s6 := seen_other HS5.out (g6.block M (seen_lt HS5.out) (by have := HM.out; simp; omega))
        have HX6 := Lib.hid x6
        have HR6 := Lib.hid r6
        have HS6 := Lib.hid s6
        clear x6 r6 s6 g6
        go_wp2_with fail
        go_ret2
        exact .ok HN.out HQ.out HX6.out HR6.out HS6.out
      · rw [if_pos he] at hf
        have hne : (((wantE 58 (s.drop q2) : Nat) : Int) != 0) = true := by simpa using he
        simp only [wantQ, he, if_false] at hwt
        have hdq3 := drop_at hq2
        generalize wantE 58 (s.drop q2) = ew at *
        have HN := Lib.hid hf
        have HQ := Lib.hid hdq3
        have HS := Lib.hid hsc
        have H := Lib.hid h
        have HL := Lib.hid hlook
        have HP := Lib.hid hput
        have HK := Lib.hid hsk
        have HW := Lib.hid hwt
        have HM := Lib.hid hMR
        clear hf hdq hdq3 hok hdd hgn ht h hdz hl hsc hdl hlook hS hin hlen hk hput hsk hwt hMR hd2 he
        unfold rp at HK HW
        go_enter Tryz.func63, Tryz.ntmps63
        go_wp2_with fail
        go_region_held3 (fun wx => wx.cell? ⟨R, 0, none⟩ = some (.string (txt s)) ∧ wx.cell? ⟨R, 1, none⟩ = some (.int .i64 q))
          (first | assumption | go_keep)
          (first | (go_at_call 65; refine (HS.out _ (by assumption)).mono ?_; rintro e wx ⟨rfl, kx⟩; have bq := below_step (w := w) (by assumption) kx; have m0 := (bq.cell (p := ⟨R, 0, none⟩) hR).trans c0; have m1 := (bq.cell (p := ⟨R, 1, none⟩) hR).trans c1))
        have hlk := HL.out wx bq
        obtain ⟨w2, hrun, hS2, hg2⟩ := HP.out wx bq
        clear c0 c1 c2 c3 m0 m1
        have h2 := (H.out.below bq).kept hg2 (by have := HM.out; simp; omega)
        obtain ⟨c0, c1, c2, c3⟩ := four h2
        have hf1 := free_of h2 1
        have r3 : Rdr R s (q + n) o u (w2.setCell ⟨R, 1, none⟩ (.int .i64 ((q : Int) + (n : Int)))) := h2.goes (q + n)
        have x3 : Off (fun i => i = R ∨ i = M) w (w2.setCell ⟨R, 1, none⟩ (.int .i64 ((q : Int) + (n : Int)))) := ((Off.of_below bq).trans (.of_grown hg2 (.inl (.inr rfl)))).trans (.of_grown (grown_cell w2 R 1 _) (.inl (.inl rfl)))
        have HX := Lib.hid x3
        have HR := Lib.hid r3
        clear x3 r3 hS2 hg2
        go_wp2_with fail
        refine (HK.out _ HR.out).mono ?_
        rintro e w4 ⟨rfl, r4, g4⟩
        have x4 := HX.out.trans (.of_grown g4 (.inl (.inl rfl)))
        have HX4 := Lib.hid x4
        have HR4 := Lib.hid r4
        clear x4 r4 g4 HX HR c0 c1 c2 c3 hf1 h2 hrun
        go_wp2_with fail
        refine (HW.out _ HR4.out).mono ?_
        rintro e w5 ⟨rfl, r5, g5⟩
        have x5 := HX4.out.trans (.of_grown g5 (.inl (.inl rfl)))
        have HX5 := Lib.hid x5
        have HR5 := Lib.hid r5
        clear x5 r5 g5
        go_wp2_with fail
        go_ret2
        exact .no HN.out HQ.out HX5.out HR5.out
  · rw [if_pos h0] at hf
    have h0' : (((ee : Nat) : Int) != 0) = true := by simpa using h0
    have HN := Lib.hid hf
    have HQ := Lib.hid hdq
    have HS := Lib.hid hsc
    have H := Lib.hid h
    clear hf hdq hok hdd hgn ht h hdz hl hsc hdl hS hlen hk h0
    go_enter Tryz.func63, Tryz.ntmps63
    go_wp2_with fail
    go_region_held3 (fun wx => wx.cell? ⟨R, 0, none⟩ = some (.string (txt s)) ∧ wx.cell? ⟨R, 1, none⟩ = some (.int .i64 q))
      (first | assumption | go_keep)
      (first | (go_at_call 65; refine (HS.out _ (by assumption)).mono ?_; rintro e wx ⟨rfl, kx⟩; have bq := below_step (w := w) (by assumption) kx; have m0 := (bq.cell (p := ⟨R, 0, none⟩) hR).trans c0; have m1 := (bq.cell (p := ⟨R, 1, none⟩) hR).trans c1))
    clear c0 c1 c2 c3 m0 m1
    go_wp2_with fail
    go_ret2
    exact .no HN.out HQ.out (.of_below bq) (H.out.below bq)
end Go.Proofs.YtlfbnfphocpgeaaGreatDoor.Jdec
namespace Go.Proofs.YtlfbnfphocpgeaaGreatDoor.Jdec
open Go.RowKit Kit Txt
open Utf (nb)
open Tre (Val HoldF zeroV)
/-- What is told from the loop's head on. -/
def atHead (val : List UInt8 → Got Val) (obj first : Bool) (keys : List (List UInt8)) (kids : List Val) (l : List UInt8) : Got Val :=
  if l.head? = some (close obj) then .ok (made obj keys kids) l.tail
  else if first = true then items val obj keys kids l
  else if l.head? ≠ some 44 then here l
  else items val obj keys kids (skip l.tail)
def opening (obj : Bool) : UInt8 := if obj then 123 else 91
theorem many_head {val : List UInt8 → Got Val} {obj : Bool} {l : List UInt8} (h : l.head? = some (opening obj)) : many val l = atHead val obj true [] [] (skip l.tail) := by
  have e : decide (l.head? = some 123) = obj := by
    rw [h]
    cases obj <;> decide
  unfold many atHead
  rw [e]
  rfl
/-- One part. -/
def part (val : List UInt8 → Got Val) (obj : Bool) (keys : List (List UInt8)) (l : List UInt8) : Got (List (List UInt8) × Val) :=
  match named obj keys l with
  | .no r e => .no r e
  | .ok ks l1 => match val l1 with
    | .no r e => .no r e
    | .ok x r => .ok (ks, x) r
theorem part_good {k : Nat} {val : List UInt8 → Got Val} (hval : ∀ l, Good (Nice k l) l (val l)) (obj : Bool) (keys : List (List UInt8)) (l : List UInt8) : Good (fun p r => r.length < l.length ∧ p.1.length ≤ keys.length + 1) l (part val obj keys l) := by
  unfold part
  have h1 := named_good obj keys l
  cases hn : named obj keys l with
  | no r e =>
    rw [hn] at h1
    exact h1
  | ok ks l1 =>
    rw [hn] at h1
    obtain ⟨s1, z1, z2⟩ := h1
    have hk : ks.length ≤ keys.length + 1 := by
      cases obj with
      | true =>
        obtain ⟨c, rfl, -⟩ : ∃ c, ks = keys ++ [c] ∧ c ∉ keys ∧ Utf.bad c = none := z2
        simp
      | false =>
        have e : ks = keys := z2
        rw [e]
        omega
    have h2 := hval l1
    dsimp only
    cases hv : val l1 with
    | no r e =>
      rw [hv] at h2
      exact ⟨h2.1.trans s1, h2.2⟩
    | ok x r =>
      rw [hv] at h2
      exact ⟨h2.1.trans s1, by have := h2.2.1; show r.length < l.length; omega, hk⟩
theorem items_no (val : List UInt8 → Got Val) (obj : Bool) {keys : List (List UInt8)} {kids : List Val} {l r : List UInt8} {e : Nat} (h : part val obj keys l = .no r e) : items val obj keys kids l = .no r e := by
  unfold part at h
  unfold items
  cases hn : named obj keys l with
  | no r' e' =>
    rw [hn] at h
    injection h with h1 h2
    subst h1; subst h2
    rfl
  | ok ks l1 =>
    rw [hn] at h
    dsimp only at h ⊢
    cases hv : val l1 with
    | no r' e' =>
      rw [hv] at h
      injection h with h1 h2
      subst h1; subst h2
      rfl
    | ok x r' =>
      rw [hv] at h
      cases h
theorem items_ok {k : Nat} {val : List UInt8 → Got Val} (hval : ∀ l, Good (Nice k l) l (val l)) {obj : Bool} {keys ks : List (List UInt8)} {kids : List Val} {l r : List UInt8} {x : Val} (h : part val obj keys l = .ok (ks, x) r) : items val obj keys kids l = atHead val obj false ks (kids ++ [x]) (skip r) := by
  have hg := part_good hval obj keys l
  rw [h] at hg
  have hlt : r.length < l.length := hg.2.1
  unfold part at h
  unfold items
  cases hn : named obj keys l with
  | no r' e' =>
    rw [hn] at h
    cases h
  | ok ks' l1 =>
    rw [hn] at h
    dsimp only at h ⊢
    cases hv : val l1 with
    | no r' e' =>
      rw [hv] at h
      cases h
    | ok x' r' =>
      rw [hv] at h
      injection h with h1 h2
      injection h1 with h3 h4
      subst h2; subst h3; subst h4
      dsimp only
      unfold atHead
      by_cases h1 : (skip r').head? = some (close obj)
      · rw [if_pos h1, if_pos h1]
      · have hf : ¬ (false = true) := by decide
        rw [if_neg h1, if_neg h1, if_neg hf]
        by_cases h2 : (skip r').head? ≠ some 44
        · rw [if_pos h2, if_pos h2]
        · rw [if_neg h2, if_neg h2, dif_pos]
          have z1 := skip_le r'
          have z2 := skip_le (skip r').tail
          have z3 := (tail_suf (skip r')).length_le
          omega
theorem drop_suf {s r : List UInt8} (h : r <:+ s) : s.drop (s.length - r.length) = r := (List.suffix_iff_eq_drop.1 h).symm
theorem suf_items {k : Nat} {val : List UInt8 → Got Val} (hval : ∀ l, Good (Nice k l) l (val l)) {obj : Bool} {keys ks : List (List UInt8)} {s l r : List UInt8} {x : Val} (h : part val obj keys l = .ok (ks, x) r) (hl : l <:+ s) : r <:+ s := by
  have hg := part_good hval obj keys l
  rw [h] at hg
  exact hg.1.trans hl
theorem items_grow {k : Nat} {val : List UInt8 → Got Val} (hval : ∀ l, Good (Nice k l) l (val l)) {obj : Bool} {keys ks : List (List UInt8)} {s r : List UInt8} {x : Val} {p : Nat} (h : part val obj keys (s.drop p) = .ok (ks, x) r) : p < s.length - r.length := by
  have hg := part_good hval obj keys (s.drop p)
  rw [h] at hg
  have h1 : r.length < (s.drop p).length := hg.2.1
  rw [List.length_drop] at h1
  omega
/-- What a reader of one part tells. -/
def ReadTold (R : Nat) (s : List UInt8) (u : Value) (o : Int) (St : List (List UInt8) → List Val → World → Prop) (kids : List Val) (g : Got (List (List UInt8) × Val)) (e : Ending) (w' : World) : Prop :=
  match g with
  | .no r n => n ≠ 0 ∧ e = .returned (.int .i64 n) ∧ ∃ o' : Int, Rdr R s (s.length - r.length) o' u w'
  | .ok p r => e = .returned (.int .i64 0) ∧ Rdr R s (s.length - r.length) o u w' ∧ St p.1 (kids ++ [p.2]) w'
theorem read_cases {R : Nat} {s : List UInt8} {u : Value} {o : Int} {St : List (List UInt8) → List Val → World → Prop} {kids : List Val} {k : Nat} {val : List UInt8 → Got Val} {hval : ∀ l, Good (Nice k l) l (val l)} {obj : Bool} {keys : List (List UInt8)} {l : List UInt8} {e : Ending} {w' : World} (h : ReadTold R s u o St kids (part val obj keys l) e w') :
    (∃ (n : Nat) (r : List UInt8) (o' : Int), part val obj keys l = .no r n ∧ n ≠ 0 ∧ e = .returned (.int .i64 n) ∧ Rdr R s (s.length - r.length) o' u w') ∨
    (∃ (ks : List (List UInt8)) (x : Val) (r : List UInt8), part val obj keys l = .ok (ks, x) r ∧ e = .returned (.int .i64 0) ∧ Rdr R s (s.length - r.length) o u w' ∧ ks.length ≤ keys.length + 1 ∧ St ks (kids ++ [x]) w') := by
  have hg := part_good hval obj keys l
  cases hc : part val obj keys l with
  | no r n =>
    rw [hc] at h
    obtain ⟨h1, h2, o', h3⟩ := h
    exact .inl ⟨n, r, o', rfl, h1, h2, h3⟩
  | ok p r =>
    rw [hc] at h hg
    obtain ⟨ks, x⟩ := p
    exact .inr ⟨ks, x, r, rfl, h.1, h.2.1, hg.2.2, h.2.2⟩
/-- What parts tells. -/
def PartsTold (R : Nat) (s : List UInt8) (u : Value) (o : Int) (St : List (List UInt8) → List Val → World → Prop) (X : Nat → Prop) (w : World) (g : Got Val) (obj : Bool) (e : Ending) (w' : World) : Prop :=
  Off X w w' ∧ match g with
  | .no r n => e = .returned (.int .i64 n) ∧ ∃ o' : Int, Rdr R s (s.length - r.length) o' u w'
  | .ok v r => e = .returned (.int .i64 0) ∧ Rdr R s (s.length - r.length) o u w' ∧ ∃ keys kids, v = made obj keys kids ∧ St keys kids w'
set_option maxRecDepth 100000 in
set_option maxHeartbeats 16000000 in
theorem mparts_any {k : Nat} {caps : Array Value} {kk : Nat} {val : List UInt8 → Got Val} (hval : ∀ l, Good (Nice kk l) l (val l)) {obj : Bool} {B R : Nat} {s : List UInt8} {q : Nat} {o x0 : Int} {u : Value} {w : World} (X : Nat → Prop) (XR : X R)
    (St : List (List UInt8) → List Val → World → Prop) (Inv : World → Prop) (hs : s.length < 100000) (ho1 : 0 ≤ o) (ho2 : o ≤ 100) (hBw : B ≤ w.heap.size) (_hRB : R < B)
    (hKI : ∀ a b : World, Inv a → Off X a b → Inv b) (hST : ∀ keys kids (a b : World), St keys kids a → a.grownBy b (some R) → St keys kids b)
    (hread : ∀ (wx : World) (p : Nat) (keys : List (List UInt8)) (kids : List Val), Rdr R s p (o + 1) u wx ∧ Inv wx ∧ B ≤ wx.heap.size ∧ St keys kids wx ∧ p ≤ s.length ∧ kids.length < 100000 ∧ keys.length < 100000 → Calls Tryz.prog k caps wx fun e w' => Off X wx w' ∧ ReadTold R s u (o + 1) St kids (part val obj keys (s.drop p)) e w')
    (hcall : ∀ wx : World, (callFunc k caps).run Tryz.prog wx = .ok (.enter k caps) wx) (h : Rdr R s q o u w) (hq : q < s.length) (hhd : (s.drop q).head? = some (opening obj)) (h0 : St [] [] w) (hI : Inv w) (hx0 : x0 = ((close obj).toNat : Int)) :
    Calls Tryz.prog 61 #[rp R, .int .u8 x0, .func (.func k) #[] caps] w (PartsTold R s u o St X w (many val (s.drop q)) obj) := by
  subst hx0
  have hR := lt_of_heap h
  obtain ⟨c0, c1, c2, c3⟩ := four h
  have hf1 := free_of h 1
  have hf2 := free_of h 2
  have hmany := many_head (val := val) hhd
  rw [List.tail_drop] at hmany
  have hwo : IntKind.i64.wrap (o + 1) = o + 1 := by simp only [IntKind.wrap, IntKind.signed, IntKind.bits]; simp; omega
  have hwo2 : IntKind.i64.wrap (o + 1 - 1) = o := by simp only [IntKind.wrap, IntKind.signed, IntKind.bits]; simp; omega
  have hwq : IntKind.i64.wrap ((q : Int) + 1) = (q : Int) + 1 := by simp only [IntKind.wrap, IntKind.signed, IntKind.bits]; simp; omega
  have r1 : Rdr R s q (o + 1) u (w.setCell ⟨R, 2, none⟩ (.int .i64 (o + 1))) := h.opens _
  have r2 : Rdr R s (q + 1) (o + 1) u ((w.setCell ⟨R, 2, none⟩ (.int .i64 (o + 1))).setCell ⟨R, 1, none⟩ (.int .i64 ((q : Int) + 1))) := r1.goes (q + 1)
  have g2 : w.grownBy ((w.setCell ⟨R, 2, none⟩ (.int .i64 (o + 1))).setCell ⟨R, 1, none⟩ (.int .i64 ((q : Int) + 1))) (some R) := grown_trans (grown_cell _ _ _ _) (grown_cell _ _ _ _)
  have hsk := mskip_any hs (show q + 1 ≤ s.length by omega) r2
  have hd1 := skipAt_drop (l := s) (i := q + 1)
  have hle1 := skipAt_le s (q + 1)
  rw [← hd1] at hmany
  generalize skipAt s (q + 1) = p1 at *
  have HMANY0 := Lib.hid hmany
  have HG2 := Lib.hid g2
  have HSK0 := Lib.hid hsk
  have HRD := Lib.hid hread
  have HKI := Lib.hid hKI
  have HST := Lib.hid hST
  have HI0 := Lib.hid hI
  have HS0 := Lib.hid h0
  have HVAL := Lib.hid hval
  clear hmany g2 hsk hread hKI hST hI h0 r1 r2 h hhd hd1
  have HXR := Lib.hid XR
  clear XR
  unfold rp at HSK0
  unfold rp
  clear hval
  go_enter Tryz.func61, Tryz.ntmps61
  go_wp2_with fail
  refine HSK0.out.mono ?_
  rintro e w1 ⟨rfl, r1, g1⟩
  have g1 := grown_trans HG2.out g1
  have x1 := Off.of_grown g1 (.inl HXR.out)
  have i1 := HKI.out _ _ HI0.out x1
  have s1 := HST.out _ _ _ _ HS0.out g1
  have z1 := Nat.le_trans hBw g1.size
  have HR1 := Lib.hid r1
  have HX1 := Lib.hid x1
  have HI1 := Lib.hid i1
  have HS1 := Lib.hid s1
  have HZ1 := Lib.hid z1
  clear g1 x1 i1 s1 r1 z1 HSK0 c0 c1 c2 c3 hf1 hf2
  go_wp2_with fail
  go_loopw [7] (fun a wr => ∃ (n p : Nat) (keys : List (List UInt8)) (kids : List Val), a = .int .i64 n ∧ n ≤ p ∧ p ≤ s.length ∧ kids.length = n ∧ keys.length ≤ n ∧ many val (s.drop q) = atHead val obj (decide (n = 0)) keys kids (s.drop p) ∧ Rdr R s p (o + 1) u wr ∧ Inv wr ∧ St keys kids wr ∧ Off X w wr ∧ B ≤ wr.heap.size) (fun a _ => s.length - (intOf a).toNat)
  case atStart => exact ⟨0, p1, [], [], rfl, Nat.zero_le _, hle1, rfl, Nat.le_refl _, HMANY0.out, HR1.out, HI1.out, HS1.out, HX1.out, HZ1.out⟩
  case round =>
    clear HMANY0 HR1 HI1 HS1 HX1 HZ1 HI0 HS0 HG2
    obtain ⟨n, p, keys, kids, rfl, hnp, hp, hkn, hkl, hm, hr, hi, hst, hx, hz⟩ := hrel
    have hhas := has_any (c := close obj) hs hr rfl
    have hval := HVAL.out
    by_cases hcl : nextIs (close obj) (s.drop p) = true
    · have hhd : (s.drop p).head? = some (close obj) := by unfold nextIs at hcl; simpa using hcl
      have hpl : p < s.length := by
        by_cases hh : p < s.length
        · exact hh
        · rw [List.drop_eq_nil_of_le (by omega)] at hhd
          cases hhd
      have hm2 : many val (s.drop q) = .ok (made obj keys kids) (s.drop (p + 1)) := by
        rw [hm]
        unfold atHead
        rw [if_pos hhd, List.tail_drop]
      rw [hcl] at hhas
      have hwp : IntKind.i64.wrap ((p : Int) + 1) = (p : Int) + 1 := by simp only [IntKind.wrap, IntKind.signed, IntKind.bits]; simp; omega
      have HM := Lib.hid hm2
      have HH := Lib.hid hhas
      have HR := Lib.hid hr
      have HST2 := Lib.hid hst
      have HX := Lib.hid hx
      clear hm hm2 hhas hcl hhd hst hx hi hval
      unfold rp at HH
      go_wp2_with fail
      refine HH.out.mono ?_
      rintro e w2 ⟨rfl, k2⟩
      have r2 := HR.out.below k2
      obtain ⟨c0, c1, c2, c3⟩ := four r2
      have hR2 := lt_of_heap r2
      have hf1 := free_of r2 1
      have hf2 := free_of r2 2
      have r3 : Rdr R s p o u (w2.setCell ⟨R, 2, none⟩ (.int .i64 o)) := r2.opens _
      have r4 : Rdr R s (p + 1) o u ((w2.setCell ⟨R, 2, none⟩ (.int .i64 o)).setCell ⟨R, 1, none⟩ (.int .i64 ((p : Int) + 1))) := r3.goes (p + 1)
      have g4 : wr.grownBy ((w2.setCell ⟨R, 2, none⟩ (.int .i64 o)).setCell ⟨R, 1, none⟩ (.int .i64 ((p : Int) + 1))) (some R) := grown_trans (grown_trans (below_grown k2) (grown_cell _ _ _ _)) (grown_cell _ _ _ _)
      have fin : PartsTold R s u o St X w (many val (s.drop q)) obj (.returned (.int .i64 0)) ((w2.setCell ⟨R, 2, none⟩ (.int .i64 o)).setCell ⟨R, 1, none⟩ (.int .i64 ((p : Int) + 1))) := by
        refine ⟨HX.out.trans (.of_grown g4 (.inl HXR.out)), ?_⟩
        rw [HM.out]
        exact ⟨rfl, by rw [drop_at (show p + 1 ≤ s.length by omega)]; exact r4, keys, kids, rfl, HST.out _ _ _ _ HST2.out g4⟩
      have HF := Lib.hid fin
      clear fin r2 r3 r4 g4 k2
      go_wp2_with fail
      go_ret
      exact HF.out
    · have hcl : nextIs (close obj) (s.drop p) = false := by simpa using hcl
      have hhd : ¬ (s.drop p).head? = some (close obj) := by unfold nextIs at hcl; simpa using hcl
      rw [hcl] at hhas
      by_cases hn0 : n = 0
      · have d1 : decide (0 < n) = false := by simp [hn0]
        have d2 : decide ((0 : Int) < (n : Int)) = false := by simp [hn0]
        have hm2 : many val (s.drop q) = items val obj keys kids (s.drop p) := by
          rw [hm]
          unfold atHead
          rw [if_neg hhd, if_pos (by simp [hn0])]
        have HMANYI := Lib.hid hm2
        have HH := Lib.hid hhas
        have HR := Lib.hid hr
        have HX := Lib.hid hx
        have HI := Lib.hid hi
        have HS := Lib.hid hst
        have HZ := Lib.hid hz
        have HL := Lib.hid hkn
        have HKL := Lib.hid hkl
        clear hm hm2 hhas hcl hhd hst hx hi hval hz hkn hkl hn0
        unfold rp at HH
        go_wp2_with fail
        refine HH.out.mono ?_
        rintro e w2 ⟨rfl, k2⟩
        have HRX := Lib.hid (HR.out.below k2)
        have HXX := Lib.hid (HX.out.trans (.of_below k2))
        have HIX := Lib.hid (HKI.out _ _ HI.out (.of_below k2))
        have HSX := Lib.hid (HST.out _ _ _ _ HS.out (below_grown k2))
        have HZX := Lib.hid (Nat.le_trans HZ.out k2.size)
        clear k2
        go_wp2_with fail
        refine (HRD.out _ _ _ _ ⟨HRX.out, HIX.out, HZX.out, HSX.out, hp, by have := HL.out; omega, by have := HKL.out; omega⟩).mono ?_
        rintro e wA hT
        obtain ⟨xA, hT⟩ := hT
        have bA := Nat.le_trans HZX.out xA.size
        rcases read_cases (hval := HVAL.out) hT with ⟨n2, r2, o2, hc, hn2, rfl, hr2⟩ | ⟨ks, x, r2, hc, rfl, hr2, hl2, hSt2⟩
        · have hne2 : (((n2 : Nat) : Int) != 0) = true := by simpa using hn2
          have fin : PartsTold R s u o St X w (many val (s.drop q)) obj (.returned (.int .i64 n2)) wA := ⟨HXX.out.trans xA, by rw [HMANYI.out, items_no val obj hc]; exact ⟨rfl, o2, hr2⟩⟩
          have HFIN := Lib.hid fin
          clear fin hT hc xA hr2 hn2
          go_wp2_with fail
          go_ret
          exact HFIN.out
        · have hmany := HMANYI.out.trans (items_ok (kids := kids) HVAL.out hc)
          have hq2 : s.length - r2.length ≤ s.length := Nat.sub_le _ _
          have hdr : s.drop (s.length - r2.length) = r2 := drop_suf (suf_items HVAL.out hc (List.drop_suffix _ _))
          have hsk := mskip_any hs hq2 hr2
          have hd4 := skipAt_drop (l := s) (i := s.length - r2.length)
          have hle4 := skipAt_le s (s.length - r2.length)
          have hge4 := skipAt_id hq2
          rw [hdr] at hd4
          have hgrow : p < s.length - r2.length := items_grow HVAL.out hc
          have hinv := HKI.out _ _ HIX.out xA
          rw [← hd4] at hmany
          generalize skipAt s (s.length - r2.length) = p4 at *
          have hwn : IntKind.i64.wrap ((n : Int) + 1) = (n : Int) + 1 := by simp only [IntKind.wrap, IntKind.signed, IntKind.bits]; simp; omega
          have HM2 := Lib.hid hmany
          have HSK := Lib.hid hsk
          have HI2 := Lib.hid hinv
          have HS2 := Lib.hid hSt2
          have HX2 := Lib.hid (HXX.out.trans xA)
          have HB2 := Lib.hid bA
          have HL2 := Lib.hid hl2
          clear hmany hsk hinv hSt2 hT hc xA hr2 hd4 hdr hl2 bA
          unfold rp at HSK
          go_wp2_with fail
          refine HSK.out.mono ?_
          rintro e wB ⟨rfl, r5, g5⟩
          have x5 := HX2.out.trans (.of_grown g5 (.inl HXR.out))
          have i5 := HKI.out _ _ HI2.out (.of_grown g5 (.inl HXR.out))
          have s5 := HST.out _ _ _ _ HS2.out g5
          have z5 := Nat.le_trans HB2.out g5.size
          have HX5 := Lib.hid x5
          have HR5 := Lib.hid r5
          have HI5 := Lib.hid i5
          have HS5 := Lib.hid s5
          have HZ5 := Lib.hid z5
          clear x5 r5 i5 s5 z5 g5
          go_wp2_with fail
          go_roundw
          case rel => exact ⟨n + 1, p4, ks, kids ++ [x], by go_num, by omega, by omega, by have := HL.out; simp [this], by have := HL2.out; have := HKL.out; omega, by rw [HM2.out]; simp, HR5.out, HI5.out, HS5.out, HX5.out, HZ5.out⟩
          case measure => simp [intOf]; omega
      · have hgt : (0 : Int) < (n : Int) := by omega
        have hwt := fun wx (hr : Rdr R s p (o + 1) u wx) => want_any (w := wx) (c := 44) (x := 44) hs hp hr rfl
        have hm2 : many val (s.drop q) = if (s.drop p).head? ≠ some 44 then here (s.drop p) else items val obj keys kids (skip (s.drop p).tail) := by
          rw [hm]
          unfold atHead
          rw [if_neg hhd, if_neg (by simpa using hn0)]
        by_cases he : wantE 44 (s.drop p) = 0
        · have hpl : p < s.length := by
            by_cases hh : p < s.length
            · exact hh
            · rw [want_past (by omega)] at he
              cases he
          have hh44 : ¬ ((s.drop p).head? ≠ some 44) := fun e => e ((want_head 44 _).1.1 he)
          have hsk := fun wx (hr : Rdr R s (p + 1) (o + 1) u wx) => mskip_any (w := wx) hs (by omega) hr
          have hd3 := skipAt_drop (l := s) (i := p + 1)
          have hle3 := skipAt_le s (p + 1)
          have hge3 := skipAt_id (s := s) (q := p + 1) (by omega)
          rw [if_neg hh44, List.tail_drop, ← hd3] at hm2
          simp only [wantQ, he, if_true] at hwt
          generalize skipAt s (p + 1) = p3 at *
          have HMANYI := Lib.hid hm2
          have HH := Lib.hid hhas
          have HR := Lib.hid hr
          have HX := Lib.hid hx
          have HI := Lib.hid hi
          have HS := Lib.hid hst
          have HZ := Lib.hid hz
          have HL := Lib.hid hkn
          have HKL := Lib.hid hkl
          have HW := Lib.hid hwt
          have HSK3 := Lib.hid hsk
          clear hm hm2 hhas hcl hhd hst hx hi hval hz hkn hkl hn0 hh44 hd3 he hwt hsk
          unfold rp at HH HW HSK3
          go_wp2_with fail
          refine HH.out.mono ?_
          rintro e w2 ⟨rfl, k2⟩
          have HR2 := Lib.hid (HR.out.below k2)
          have HX2 := Lib.hid (HX.out.trans (.of_below k2))
          have HI2 := Lib.hid (HKI.out _ _ HI.out (.of_below k2))
          have HS2 := Lib.hid (HST.out _ _ _ _ HS.out (below_grown k2))
          have HZ2 := Lib.hid (Nat.le_trans HZ.out k2.size)
          clear k2 HX HI HS HZ HR
          go_wp2_with fail
          refine (HW.out _ HR2.out).mono ?_
          rintro e w3 ⟨rfl, r3, g3⟩
          have HR3 := Lib.hid r3
          have HX3 := Lib.hid (HX2.out.trans (.of_grown g3 (.inl HXR.out)))
          have HI3 := Lib.hid (HKI.out _ _ HI2.out (.of_grown g3 (.inl HXR.out)))
          have HS3 := Lib.hid (HST.out _ _ _ _ HS2.out g3)
          have HZ3 := Lib.hid (Nat.le_trans HZ2.out g3.size)
          clear r3 g3 HR2 HX2 HI2 HS2 HZ2
          go_wp2_with fail
          refine (HSK3.out _ HR3.out).mono ?_
          rintro e w4 ⟨rfl, r4, g4⟩
          have HRX := Lib.hid r4
          have HXX := Lib.hid (HX3.out.trans (.of_grown g4 (.inl HXR.out)))
          have HIX := Lib.hid (HKI.out _ _ HI3.out (.of_grown g4 (.inl HXR.out)))
          have HSX := Lib.hid (HST.out _ _ _ _ HS3.out g4)
          have HZX := Lib.hid (Nat.le_trans HZ3.out g4.size)
          clear r4 g4 HR3 HX3 HI3 HS3 HZ3
          go_wp2_with fail
          refine (HRD.out _ _ _ _ ⟨HRX.out, HIX.out, HZX.out, HSX.out, hle3, by have := HL.out; omega, by have := HKL.out; omega⟩).mono ?_
          rintro e wA hT
          obtain ⟨xA, hT⟩ := hT
          have bA := Nat.le_trans HZX.out xA.size
          rcases read_cases (hval := HVAL.out) hT with ⟨n2, r2, o2, hc, hn2, rfl, hr2⟩ | ⟨ks, x, r2, hc, rfl, hr2, hl2, hSt2⟩
          · have hne2 : (((n2 : Nat) : Int) != 0) = true := by simpa using hn2
            have fin : PartsTold R s u o St X w (many val (s.drop q)) obj (.returned (.int .i64 n2)) wA := ⟨HXX.out.trans xA, by rw [HMANYI.out, items_no val obj hc]; exact ⟨rfl, o2, hr2⟩⟩
            have HFIN := Lib.hid fin
            clear fin hT hc xA hr2 hn2
            go_wp2_with fail
            go_ret
            exact HFIN.out
          · have hmany := HMANYI.out.trans (items_ok (kids := kids) HVAL.out hc)
            have hq2 : s.length - r2.length ≤ s.length := Nat.sub_le _ _
            have hdr : s.drop (s.length - r2.length) = r2 := drop_suf (suf_items HVAL.out hc (List.drop_suffix _ _))
            have hsk := mskip_any hs hq2 hr2
            have hd4 := skipAt_drop (l := s) (i := s.length - r2.length)
            have hle4 := skipAt_le s (s.length - r2.length)
            have hge4 := skipAt_id hq2
            rw [hdr] at hd4
            have hgrow : p3 < s.length - r2.length := items_grow HVAL.out hc
            have hinv := HKI.out _ _ HIX.out xA
            rw [← hd4] at hmany
            generalize skipAt s (s.length - r2.length) = p4 at *
            have hwn : IntKind.i64.wrap ((n : Int) + 1) = (n : Int) + 1 := by simp only [IntKind.wrap, IntKind.signed, IntKind.bits]; simp; omega
            have HM2 := Lib.hid hmany
            have HSK := Lib.hid hsk
            have HI2 := Lib.hid hinv
            have HS2 := Lib.hid hSt2
            have HX2 := Lib.hid (HXX.out.trans xA)
            have HB2 := Lib.hid bA
            have HL2 := Lib.hid hl2
            clear hmany hsk hinv hSt2 hT hc xA hr2 hd4 hdr hl2 bA
            unfold rp at HSK
            go_wp2_with fail
            refine HSK.out.mono ?_
            rintro e wB ⟨rfl, r5, g5⟩
            have x5 := HX2.out.trans (.of_grown g5 (.inl HXR.out))
            have i5 := HKI.out _ _ HI2.out (.of_grown g5 (.inl HXR.out))
            have s5 := HST.out _ _ _ _ HS2.out g5
            have z5 := Nat.le_trans HB2.out g5.size
            have HX5 := Lib.hid x5
            have HR5 := Lib.hid r5
            have HI5 := Lib.hid i5
            have HS5 := Lib.hid s5
            have HZ5 := Lib.hid z5
            clear x5 r5 i5 s5 z5 g5
            go_wp2_with fail
            go_roundw
            case rel => exact ⟨n + 1, p4, ks, kids ++ [x], by go_num, by omega, by omega, by have := HL.out; simp [this], by have := HL2.out; have := HKL.out; omega, by rw [HM2.out]; simp, HR5.out, HI5.out, HS5.out, HX5.out, HZ5.out⟩
            case measure => simp [intOf]; omega
        · have hh44 : (s.drop p).head? ≠ some 44 := fun e => he ((want_head 44 _).1.2 e)
          rw [if_pos hh44, (want_head 44 _).2 he] at hm2
          have hne : (((wantE 44 (s.drop p) : Nat) : Int) != 0) = true := by simpa using he
          simp only [wantQ, he, if_false] at hwt
          generalize wantE 44 (s.drop p) = ew at *
          have HM := Lib.hid hm2
          have HH := Lib.hid hhas
          have HR := Lib.hid hr
          have HX := Lib.hid hx
          have HW := Lib.hid hwt
          clear hm hm2 hhas hcl hhd hst hx hi hval hh44 he hwt
          unfold rp at HH HW
          go_wp2_with fail
          refine HH.out.mono ?_
          rintro e w2 ⟨rfl, k2⟩
          have r2 := HR.out.below k2
          have x2 := HX.out.trans (.of_below k2)
          have HR2 := Lib.hid r2
          have HX2 := Lib.hid x2
          clear r2 x2 k2
          go_wp2_with fail
          refine (HW.out _ HR2.out).mono ?_
          rintro e w3 ⟨rfl, r3, g3⟩
          have fin : PartsTold R s u o St X w (many val (s.drop q)) obj (.returned (.int .i64 ew)) w3 := by
            refine ⟨HX2.out.trans (.of_grown g3 (.inl HXR.out)), ?_⟩
            rw [HM.out]
            exact ⟨rfl, o + 1, by rw [drop_at hp]; exact r3⟩
          have HF := Lib.hid fin
          clear fin r3 g3
          go_wp2_with fail
          go_ret
          exact HF.out
end Go.Proofs.YtlfbnfphocpgeaaGreatDoor.Jdec
namespace Go.Proofs.YtlfbnfphocpgeaaGreatDoor.Tre
open Go.RowKit Kit Txt
theorem setc_other {W : World} {g k i : Nat} (v : Value) (hk : k ≠ g) : (W.setCell ⟨g, i, none⟩ v).heap[k]? = W.heap[k]? := by
  show (W.heap.modify g _)[k]? = _
  rw [Array.getElem?_modify]
  simp [Ne.symm hk]
/-- A whole value is stored at a place. -/
def put8 (W : World) (g o : Nat) (a b c d e f x y : Value) : World :=
  (((((((W.setCell ⟨g, o, none⟩ a).setCell ⟨g, o + 1, none⟩ b).setCell ⟨g, o + 2, none⟩ c).setCell ⟨g, o + 3, none⟩ d).setCell ⟨g, o + 4, none⟩ e).setCell ⟨g, o + 5, none⟩ f).setCell ⟨g, o + 6, none⟩ x).setCell ⟨g, o + 7, none⟩ y
theorem put8_block {W : World} {g k o : Nat} (hk : k ≠ g) (a b c d e f x y : Value) : (put8 W g o a b c d e f x y).heap[k]? = W.heap[k]? := by
  unfold put8
  simp only [setc_other _ hk]
theorem put8_size (W : World) (g o : Nat) (a b c d e f x y : Value) : (put8 W g o a b c d e f x y).heap.size = W.heap.size := by
  simp [put8, World.setCell, Array.size_modify]
theorem put8_own {W : World} {g o : Nat} {arr : Array Value} {t : TypeId} {fr : Nat × Nat} (h : W.heap[g]? = some (.cells arr t fr)) (a b c d e f x y : Value) : ∃ arr' : Array Value, arr'.size = arr.size ∧ (put8 W g o a b c d e f x y).heap[g]? = some (.cells arr' t fr) := by
  have := (set_of (set_of (set_of (set_of (set_of (set_of (set_of (set_of h o a) (o + 1) b) (o + 2) c) (o + 3) d) (o + 4) e) (o + 5) f) (o + 6) x) (o + 7) y)
  exact ⟨_, by simp, this⟩
theorem put8_cell {W : World} {g o i : Nat} (hi : i < o ∨ o + 8 ≤ i) (a b c d e f x y : Value) : (put8 W g o a b c d e f x y).cell? ⟨g, i, none⟩ = W.cell? ⟨g, i, none⟩ := by
  unfold put8
  have ne : ∀ k, k < 8 → (⟨g, o + k, none⟩ : Addr) ≠ ⟨g, i, none⟩ := fun k hk e => by
    injection e with _ e _
    omega
  rw [World.cell?_setCell_other _ _ _ _ (ne 7 (by omega)), World.cell?_setCell_other _ _ _ _ (ne 6 (by omega)), World.cell?_setCell_other _ _ _ _ (ne 5 (by omega)), World.cell?_setCell_other _ _ _ _ (ne 4 (by omega)), World.cell?_setCell_other _ _ _ _ (ne 3 (by omega)), World.cell?_setCell_other _ _ _ _ (ne 2 (by omega)), World.cell?_setCell_other _ _ _ _ (ne 1 (by omega)), World.cell?_setCell_other _ _ _ _ (show (⟨g, o, none⟩ : Addr) ≠ ⟨g, i, none⟩ from fun e => by injection e with _ e _; omega)]
theorem put8_at {W : World} {g o : Nat} {arr : Array Value} {t : TypeId} {fr : Nat × Nat} (h : W.heap[g]? = some (.cells arr t fr)) (ho : o + 8 ≤ arr.size) (a b c d e f x y : Value) : At8 (put8 W g o a b c d e f x y) g o [a, b, c, d, e, f, x, y] := by
  have h2 := (set_of (set_of (set_of (set_of (set_of (set_of (set_of (set_of h o a) (o + 1) b) (o + 2) c) (o + 3) d) (o + 4) e) (o + 5) f) (o + 6) x) (o + 7) y)
  refine ⟨rfl, fun j hj => ?_⟩
  have h3 := cell_of h2 (o + j)
  refine h3.trans ?_
  rcases j with _ | _ | _ | _ | _ | _ | _ | _ | j
  all_goals first | omega | skip
  all_goals
    simp only [Array.getElem?_setIfInBounds]
    simp
    omega
/-- The eight cells of a block from a place on. -/
theorem block8 {W : World} {g o : Nat} {arr : Array Value} {t : TypeId} {fr : Nat × Nat} (h : W.heap[g]? = some (.cells arr t fr)) (ho : o + 8 ≤ arr.size) : ∃ z0 z1 z2 z3 z4 z5 z6 z7 : Value, W.cell? ⟨g, o, none⟩ = some z0 ∧ W.cell? ⟨g, o + 1, none⟩ = some z1 ∧ W.cell? ⟨g, o + 2, none⟩ = some z2 ∧ W.cell? ⟨g, o + 3, none⟩ = some z3 ∧ W.cell? ⟨g, o + 4, none⟩ = some z4 ∧ W.cell? ⟨g, o + 5, none⟩ = some z5 ∧ W.cell? ⟨g, o + 6, none⟩ = some z6 ∧ W.cell? ⟨g, o + 7, none⟩ = some z7 := by
  refine ⟨arr[o], arr[o + 1], arr[o + 2], arr[o + 3], arr[o + 4], arr[o + 5], arr[o + 6], arr[o + 7], ?_⟩
  refine ⟨?_, ?_, ?_, ?_, ?_, ?_, ?_, ?_⟩
  all_goals rw [cell_of h]; exact Array.getElem?_eq_getElem _
end Go.Proofs.YtlfbnfphocpgeaaGreatDoor.Tre
namespace Go.Proofs.YtlfbnfphocpgeaaGreatDoor.Tre
open Go.RowKit Kit Txt
open Num (Dec zero)
theorem flat_len {cs : List (List Value)} (h : ∀ x ∈ cs, x.length = 8) : cs.flatten.length = cs.length * 8 := by
  induction cs with
  | nil => rfl
  | cons x r ih =>
    rw [List.flatten_cons, List.length_append, ih fun y hy => h y (List.mem_cons_of_mem _ hy), h x List.mem_cons_self, List.length_cons]
    omega
theorem RowC.eights {N : Option Nat} {B : Nat} {w : World} {u : Value} {vs : List Val} {cs : List (List Value)} (h : RowC N B w u vs cs) : ∀ x ∈ cs, x.length = 8 := fun x hx => by
  obtain ⟨hl, -, hh⟩ := h
  obtain ⟨i, hi, e⟩ := List.mem_iff_getElem.1 hx
  exact holdP_len (hh i x (vs[i]'(by omega)) (by rw [List.getElem?_eq_getElem hi, e]) (List.getElem?_eq_getElem (by omega)))
/-- The row's block, where it has one. -/
theorem RowC.block {N : Option Nat} {B g cap m : Nat} {w : World} {vs : List Val} {cs : List (List Value)} (h : RowC N B w (.slice (some ⟨g, 0, none⟩) m cap) vs cs) : B ≤ g ∧ m = vs.length ∧ m ≤ cap ∧ ∃ cur : Array Value, w.heap[g]? = some (.cells cur 29 (0, 0)) ∧ cur.size = cap * 8 ∧ cur.toList.take (m * 8) = cs.flatten := by
  obtain ⟨hl, ⟨h1, h2⟩, hh⟩ := h
  rcases h2 with ⟨h2, -⟩ | ⟨g', cap', cur, h2, hg, hb, hc, hm, hz, ht⟩
  · cases h2
  · injection h2 with e1 e2 e3
    injection e1 with e1
    injection e1 with e1 _ _
    subst e1; subst e3
    exact ⟨hg, e2, by omega, cur, hb, hz, by rw [e2]; exact ht⟩
theorem RowC.fill {N : Option Nat} {B g cap m : Nat} {w : World} {vs : List Val} {cs : List (List Value)} {z0 z : Val} {c0 : List Value} {a b c d e f x y : Value}
    (h : RowC N B w (.slice (some ⟨g, 0, none⟩) (m + 1) cap) (vs ++ [z0]) (cs ++ [c0])) (hm : vs.length = m)
    (hz : HoldP (fun q => B ≤ q ∧ (Value.slice (some ⟨g, 0, none⟩) (m + 1) cap).ownBlock ≠ some q ∧ N ≠ some q) w [a, b, c, d, e, f, x, y] z) :
    RowC N B (put8 w g (m * 8) a b c d e f x y) (.slice (some ⟨g, 0, none⟩) (m + 1) cap) (vs ++ [z]) (cs ++ [[a, b, c, d, e, f, x, y]]) := by
  have h8 := h.eights
  obtain ⟨hB, -, hmc, cur, hb, hcz, htk⟩ := h.block
  obtain ⟨hl, hown, hh⟩ := h
  obtain ⟨o1, o2⟩ := hown
  have hcl : cs.length = m := by simp at hl; omega
  have h8c : ∀ x ∈ cs, x.length = 8 := fun x hx => h8 x (by simp [hx])
  have h80 : c0.length = 8 := h8 c0 (by simp)
  have hfl := flat_len h8c
  obtain ⟨arr', hz', hb'⟩ := put8_own hb a b c d e f x y (o := m * 8)
  have hcap : (m + 1) * 8 ≤ cap * 8 := by omega
  have hmax : cap ≤ maxLen := by
    rcases o2 with ⟨h2, -⟩ | ⟨g', cap', cur', h2, hg', hb2, hc2, hm2, -⟩
    · cases h2
    · injection h2 with e1 e2 e3
      subst e3
      exact hm2
  have hat := put8_at hb (o := m * 8) (by omega) a b c d e f x y
  have htake : arr'.toList.take ((m + 1) * 8) = (cs ++ [[a, b, c, d, e, f, x, y]]).flatten := by
    apply List.ext_getElem?
    intro i
    rw [List.flatten_append, List.flatten_singleton, List.getElem?_take]
    by_cases hi : i < (m + 1) * 8
    · rw [if_pos hi]
      have e1 : arr'.toList[i]? = (put8 w g (m * 8) a b c d e f x y).cell? ⟨g, i, none⟩ := by rw [cell_of hb', Array.getElem?_toList]
      rw [e1]
      by_cases hi2 : i < m * 8
      · rw [put8_cell (.inl hi2), cell_of hb, List.getElem?_append_left (by omega)]
        have e2 : (cur.toList.take ((m + 1) * 8))[i]? = (cs ++ [c0]).flatten[i]? := by rw [htk]
        rw [List.getElem?_take, if_pos hi, List.flatten_append, List.getElem?_append_left (by omega), Array.getElem?_toList] at e2
        exact e2
      · have h2 := hat.2 (i - m * 8) (by omega)
        rw [show m * 8 + (i - m * 8) = i by omega] at h2
        rw [h2, List.getElem?_append_right (by omega), hfl, hcl]
    · rw [if_neg hi, List.getElem?_eq_none]
      rw [List.length_append, hfl, hcl]
      simp
      omega
  have keep : ∀ {c3 : List Value} {v3 : Val}, HoldP (fun q => B ≤ q ∧ (Value.slice (some ⟨g, 0, none⟩) (m + 1) cap).ownBlock ≠ some q ∧ N ≠ some q) w c3 v3 → HoldP (fun q => B ≤ q ∧ (Value.slice (some ⟨g, 0, none⟩) (m + 1) cap).ownBlock ≠ some q ∧ N ≠ some q) (put8 w g (m * 8) a b c d e f x y) c3 v3 := fun {c3 v3} hc =>
    HoldP.keep (by rw [put8_size]; exact Nat.le_refl _) (fun q hq _ => put8_block (fun e => hq.2.1 (by rw [e]; rfl)) _ _ _ _ _ _ _ _) v3 hc
  refine ⟨by simp; omega, ⟨?_, .inr ⟨g, cap, arr', by simp [hm], hB, hb', ?_, hmax, by omega, ?_⟩⟩, fun i c2 v2 h1 h2 => ?_⟩
  · rw [← htake, List.length_take, Array.length_toList, hz', hcz]
    simp
    omega
  · simp
    omega
  · rw [show (vs ++ [z]).length = m + 1 by simp [hm]]
    exact htake
  · by_cases hi : i < cs.length
    · rw [List.getElem?_append_left hi] at h1
      rw [List.getElem?_append_left (by omega)] at h2
      exact keep (hh i c2 v2 (by rw [List.getElem?_append_left hi]; exact h1) (by rw [List.getElem?_append_left (by omega)]; exact h2))
    · have hi' : i = cs.length := by
        have := (List.getElem?_eq_some_iff.1 h1).1
        simp at this
        omega
      subst hi'
      rw [List.getElem?_append_right (Nat.le_refl _)] at h1
      rw [List.getElem?_append_right (by omega)] at h2
      rw [Nat.sub_self] at h1
      rw [show cs.length - vs.length = 0 by omega] at h2
      simp at h1 h2
      subst h1; subst h2
      exact keep hz
/-- 'append(row, v)', as step_push, with what is known of the block. -/
theorem step_push4 {ops : Array Oper} {o : Oper} {a : Act} {w : World} {K : Act → World → Prop} {Q : Exit → Act → World → Prop} {E : Prop} (hgd : o.guard = none) (s x : Operand)
    (ho : o.op = .call { callee := .builtin .append, args := #[s, x], argTypes := #[27, 27] }) {M : Option Nat} (B S : Nat) {u : Value} {vs : List Val} {cs : List (List Value)} {v : Val} {c : List Value} {N cap m : Nat} (hm : vs.length = m) (hs : a.eval s = u) (hx : a.eval x = .slice (some ⟨N, 0, none⟩) 1 cap)
    (hN : ∀ j, j < 8 → w.cell? ⟨N, j, none⟩ = c[j]?) (h : RowC M B w u vs cs) (hv : HoldP (S ≤ ·) w c v) (hB : B ≤ S) (hS : ∀ g, u.ownBlock = some g → g < S) (hM : ∀ g, M = some g → g < S) (hn : m < 1000000) (hbw : B ≤ w.heap.size)
    (hK : ∀ g cap' w', RowC M B w' (.slice (some ⟨g, 0, none⟩) (m + 1) cap') (vs ++ [v]) (cs ++ [c]) → w.grownBy w' u.ownBlock → (u.ownBlock = some g ∨ g = w.heap.size) → K (a.put o.dst (.slice (some ⟨g, 0, none⟩) (m + 1) cap')) w') :
    if Region.wanted o (yielded ops a.tmps) = true then Oper.wp Tryz.prog o a w K Q else E := by
  subst hm
  obtain ⟨i0, hi, hz0, hz1, hz2⟩ := info_parts infoValue
  have hc8 := holdP_len hv
  refine step_append_lies w hgd s x 27 ho B 29 i0 zeroV 8 112 Tryz.underlying27 hi hz0 hz1 hz2 rfl (by decide) u vs.length cs.flatten hs h.2.1 ⟨N, 0, none⟩ 1 cap c hx (by omega) ?_ (holdP_one hv) (by decide) (by unfold maxLen; omega) (by omega) hbw w.heap.size rfl ?_
  · intro j y hy
    rw [addr_at, hN j (by have := (List.getElem?_eq_some_iff.1 hy).1; omega), hy]
  · intro g cap' w' h2 h3 h4 _
    exact hK g cap' w' (h.push hv hB hS hM h2 h3 rfl h4) h3 h4
end Go.Proofs.YtlfbnfphocpgeaaGreatDoor.Tre
namespace Go.Proofs.YtlfbnfphocpgeaaGreatDoor.Tre
open Go.RowKit Kit Txt
open Num (Dec zero)
theorem own_of {g m c q : Nat} (e : (Value.slice (some ⟨g, 0, none⟩) m c).ownBlock = some q) : q = g := by
  have h : g = q := by simpa [Value.ownBlock] using e
  exact h.symm
theorem rowT_lt {B : Nat} {w : World} {u : Value} {ls : List (List UInt8)} (h : RowT B w u ls) : ∀ g, u.ownBlock = some g → B ≤ g ∧ g < w.heap.size := by
  intro g hg
  rcases h.2 with ⟨rfl, _⟩ | ⟨g', cap, cur, rfl, hg', hb, _⟩
  · cases hg
  · have e : g' = g := by simpa [Value.ownBlock] using hg
    subst e
    exact ⟨hg', lt_of_heap hb⟩
theorem rowT_slice {B : Nat} {w : World} {u : Value} {ls : List (List UInt8)} (h : RowT B w u ls) : ∃ a c, u = .slice a ls.length c := by
  obtain ⟨a, c, hu, _⟩ := h.holds
  exact ⟨a, c, hu⟩
theorem rowC_slice {N : Option Nat} {B : Nat} {w : World} {u : Value} {vs : List Val} {cs : List (List Value)} (h : RowC N B w u vs cs) : ∃ a c, u = .slice a vs.length c := by
  obtain ⟨a, c, hu, _⟩ := h.holds
  exact ⟨a, c, hu⟩
theorem rows_diff {B : Nat} {w : World} {u1 u2 : Value} {M : Option Nat} {ls : List (List UInt8)} {vs : List Val} {cs : List (List Value)} (h1 : RowT B w u1 ls) (h2 : RowC M B w u2 vs cs) : ∀ g, u2.ownBlock = some g → u1.ownBlock ≠ some g := by
  intro g e2 e1
  rcases h1.2 with ⟨rfl, _⟩ | ⟨g1, c1, k1, rfl, _, hb1, _⟩
  · cases e1
  · rcases h2.2.1.2 with ⟨rfl, _⟩ | ⟨g2, c2, k2, rfl, _, hb2, _⟩
    · cases e2
    · have a1 : g1 = g := by simpa [Value.ownBlock] using e1
      have a2 : g2 = g := by simpa [Value.ownBlock] using e2
      subst a1; subst a2
      rw [hb1] at hb2
      injection hb2 with hb2
      injection hb2 with _ ht _
      exact absurd ht (by decide)
theorem rowT_apart {B : Nat} {w w' : World} {u1 u2 : Value} {M : Option Nat} {ls : List (List UInt8)} {vs : List Val} {cs : List (List Value)} (h1 : RowT B w u1 ls) (h2 : RowC M B w u2 vs cs) (b : w.grownBy w' u2.ownBlock) : RowT B w' u1 ls := by
  refine World.ownsRow.kept h1 b ?_
  cases e : u1.ownBlock with
  | none => exact .inl rfl
  | some g => exact .inr fun h => rows_diff h1 h2 g h.symm e
/-- What an append leaves, of a value whose memory is told. -/
theorem RowC.push2 {N : Option Nat} {B : Nat} {w w' : World} {u u' : Value} {vs : List Val} {v : Val} {c : List Value} {cs : List (List Value)} {g' : Nat} (h : RowC N B w u vs cs) (hv : HoldP (fun q => B ≤ q ∧ u.ownBlock ≠ some q ∧ N ≠ some q) w c v)
    (hown : w'.ownsRow B 29 8 u' (vs.length + 1) (cs.flatten ++ c)) (hg : w.grownBy w' u.ownBlock) (hu : u'.ownBlock = some g') (hg' : u.ownBlock = some g' ∨ g' = w.heap.size) : RowC N B w' u' (vs ++ [v]) (cs ++ [c]) := by
  obtain ⟨hl, _, hh⟩ := h
  have hne : ∀ g, u.ownBlock ≠ some g → g < w.heap.size → u'.ownBlock ≠ some g := fun g h1 h2 e => by
    rw [hu] at e
    cases e
    rcases hg' with e | e
    · exact h1 e
    · omega
  have fin : ∀ {c3 : List Value} {v3 : Val}, HoldP (fun g => B ≤ g ∧ u.ownBlock ≠ some g ∧ N ≠ some g) w c3 v3 → HoldP (fun g => B ≤ g ∧ u'.ownBlock ≠ some g ∧ N ≠ some g) w' c3 v3 := fun {c3 v3} hc =>
    HoldP.mono (X := fun g => B ≤ g ∧ u.ownBlock ≠ some g ∧ u'.ownBlock ≠ some g ∧ N ≠ some g) (fun g h _ => ⟨h.1, h.2.2.1, h.2.2.2⟩) v3 (HoldP.keep hg.size (fun g hX hlt => hg.block g hlt (fun e => hX.2.1 e.symm)) v3 (HoldP.mono (fun g hX hlt => ⟨hX.1, hX.2.1, hne g hX.2.1 hlt, hX.2.2⟩) v3 hc))
  refine ⟨by simp [hl], by simpa using hown, fun i c2 v2 h1 h2 => ?_⟩
  by_cases hi : i < cs.length
  · rw [List.getElem?_append_left hi] at h1
    rw [List.getElem?_append_left (by omega)] at h2
    exact fin (hh i c2 v2 h1 h2)
  · have hi' : i = cs.length := by
      have := (List.getElem?_eq_some_iff.1 h1).1
      simp at this
      omega
    subst hi'
    rw [List.getElem?_append_right (Nat.le_refl _)] at h1
    rw [List.getElem?_append_right (by omega)] at h2
    rw [Nat.sub_self] at h1
    rw [show cs.length - vs.length = 0 by omega] at h2
    simp at h1 h2
    subst h1; subst h2
    exact fin hv
/-- Both rows, a value beside them, and some blocks that are none of theirs. -/
structure Rows2 (B : Nat) (L : List (Nat × Obj)) (w : World) (uk : Value) (keys : List (List UInt8)) (uv : Value) (kids : List Val) (cs : List (List Value)) (c : List Value) (z : Val) : Prop where
  base : B ≤ w.heap.size
  T : RowT B w uk keys
  C : RowC uk.ownBlock B w uv kids cs
  P : HoldP (fun q => B ≤ q ∧ uv.ownBlock ≠ some q ∧ uk.ownBlock ≠ some q) w c z
  box : ∀ e ∈ L, w.heap[e.1]? = some e.2 ∧ uv.ownBlock ≠ some e.1 ∧ uk.ownBlock ≠ some e.1
theorem Rows2.get {B : Nat} {L : List (Nat × Obj)} {w : World} {uk uv : Value} {keys : List (List UInt8)} {kids : List Val} {cs : List (List Value)} {c : List Value} {z : Val} (h : Rows2 B L w uk keys uv kids cs c z) {i : Nat} {o : Obj} (hm : (i, o) ∈ L) : w.heap[i]? = some o := (h.box _ hm).1
theorem Rows2.below {B : Nat} {L : List (Nat × Obj)} {w w' : World} {uk uv : Value} {keys : List (List UInt8)} {kids : List Val} {cs : List (List Value)} {c : List Value} {z : Val} (h : Rows2 B L w uk keys uv kids cs c z) (b : Below w.heap.size w w') : Rows2 B L w' uk keys uv kids cs c z :=
  ⟨Nat.le_trans h.base b.size, h.T.below b, h.C.below b, HoldP.keep b.size (fun g _ hg => b.block g hg) z h.P, fun e he => ⟨(b.block _ (lt_of_heap (h.box e he).1)).trans (h.box e he).1, (h.box e he).2⟩⟩
/-- A new block. -/
theorem Rows2.add {B : Nat} {L : List (Nat × Obj)} {w : World} {uk uv : Value} {keys : List (List UInt8)} {kids : List Val} {cs : List (List Value)} {c : List Value} {z : Val} (h : Rows2 B L w uk keys uv kids cs c z) (o : Obj) : Rows2 B ((w.heap.size, o) :: L) (w.alloc o) uk keys uv kids cs c z := by
  have h2 := h.below ((Below.refl _ w).alloc (Nat.le_refl _) o)
  refine ⟨h2.base, h2.T, h2.C, h2.P, fun e he => ?_⟩
  rcases List.mem_cons.1 he with he | he
  · subst he
    refine ⟨World.alloc_heap_new w o, fun e => ?_, fun e => ?_⟩
    · have := (h.C.own_lt _ e).2
      omega
    · have := (rowT_lt h.T _ e).2
      omega
  · exact h2.box e he
theorem grown_below2 {B : Nat} {w w' : World} {row : Option Nat} (h : w.grownBy w' row) (hB : B ≤ w.heap.size) (hr : ∀ g, row = some g → B ≤ g) : Below B w w' :=
  ⟨h.os, h.tape, h.output, h.size, fun k hk => h.block k (by omega) (fun e => by have := hr k e.symm; omega)⟩
/-- 'append(keys, k)'. -/
theorem step_keys {ops : Array Oper} {o : Oper} {a : Act} {w : World} {K : Act → World → Prop} {Q : Exit → Act → World → Prop} {E0 : Prop} (hgd : o.guard = none) (s x : Operand)
    (ho : o.op = .call { callee := .builtin .append, args := #[s, x], argTypes := #[26, 26] }) {B : Nat} {L : List (Nat × Obj)} {uk uv : Value} {keys : List (List UInt8)} {kids : List Val} {cs : List (List Value)} {c : List Value} {z : Val} {l : List UInt8} {N cap m : Nat} (hm : keys.length = m) (hs : a.eval s = uk) (hx : a.eval x = .slice (some ⟨N, 0, none⟩) 1 cap)
    (h : Rows2 B L w uk keys uv kids cs c z) (hN : (N, Obj.cells #[.string (txt l)] 9 (0, 0)) ∈ L) (hn : m < 1000000)
    (hK : ∀ g cap' w', Rows2 B L w' (.slice (some ⟨g, 0, none⟩) (m + 1) cap') (keys ++ [l]) uv kids cs c z → Below B w w' → K (a.put o.dst (.slice (some ⟨g, 0, none⟩) (m + 1) cap')) w') :
    if Region.wanted o (yielded ops a.tmps) = true then Oper.wp Tryz.prog o a w K Q else E0 := by
  refine step_pushT hgd s x ho B hm hs hx (cell_of (h.get hN) 0) h.T hn h.base fun g cap' w' hT hg hg' => hK g cap' w' ⟨Nat.le_trans h.base hg.size, hT, ?_, ?_, ?_⟩ (grown_below2 hg h.base fun g e => (rowT_lt h.T g e).1)
  · exact h.C.renew hg (fun g e => rows_diff h.T h.C g e) (fun g' e => by
      have e' : g = g' := by simpa [Value.ownBlock] using e
      subst e'
      exact hg')
  · have h1 := HoldP.mono (Y := fun q => B ≤ q ∧ uv.ownBlock ≠ some q ∧ uk.ownBlock ≠ some q ∧ q ≠ g) (fun q hq hlt => ⟨hq.1, hq.2.1, hq.2.2, fun e => by
      subst e
      rcases hg' with e | e
      · exact hq.2.2 e
      · omega⟩) z h.P
    exact HoldP.mono (fun q hq _ => ⟨hq.1, hq.2.1, fun e => hq.2.2.2 (own_of e)⟩) z (HoldP.keep hg.size (fun q hq hlt => hg.block q hlt (fun e => hq.2.2.1 e.symm)) z h1)
  · intro e he
    obtain ⟨b1, b2, b3⟩ := h.box e he
    refine ⟨(hg.block _ (lt_of_heap b1) (fun e => b3 e.symm)).trans b1, b2, fun e2 => ?_⟩
    have e' := own_of e2
    rcases hg' with e3 | e3
    · exact b3 (by rw [e']; exact e3)
    · have := lt_of_heap b1
      omega
/-- 'append(kids, v)'. -/
theorem step_kids {ops : Array Oper} {o : Oper} {a : Act} {w : World} {K : Act → World → Prop} {Q : Exit → Act → World → Prop} {E0 : Prop} (hgd : o.guard = none) (s x : Operand)
    (ho : o.op = .call { callee := .builtin .append, args := #[s, x], argTypes := #[27, 27] }) {B : Nat} {L : List (Nat × Obj)} {uk uv : Value} {keys : List (List UInt8)} {kids : List Val} {cs : List (List Value)} {c : List Value} {z : Val} {N cap m : Nat} (hm : kids.length = m) (hs : a.eval s = uv) (hx : a.eval x = .slice (some ⟨N, 0, none⟩) 1 cap)
    (h : Rows2 B L w uk keys uv kids cs c z) (hN : (N, Obj.cells c.toArray 29 (0, 0)) ∈ L) (hn : m < 1000000)
    (hK : ∀ g cap' w', Rows2 B L w' uk keys (.slice (some ⟨g, 0, none⟩) (m + 1) cap') (kids ++ [z]) (cs ++ [c]) c z → Below B w w' → K (a.put o.dst (.slice (some ⟨g, 0, none⟩) (m + 1) cap')) w') :
    if Region.wanted o (yielded ops a.tmps) = true then Oper.wp Tryz.prog o a w K Q else E0 := by
  subst hm
  obtain ⟨i0, hi, hz0, hz1, hz2⟩ := info_parts infoValue
  have hc8 := holdP_len h.P
  refine step_append_lies w hgd s x 27 ho B 29 i0 zeroV 8 112 Tryz.underlying27 hi hz0 hz1 hz2 rfl (by decide) uv kids.length cs.flatten hs h.C.2.1 ⟨N, 0, none⟩ 1 cap c hx (by omega) ?_ (holdP_one h.P) (by decide) (by unfold maxLen; omega) (by omega) h.base w.heap.size rfl ?_
  · intro j y hy
    rw [addr_at, cell_of (h.get hN)]
    simpa using hy
  · intro g cap' w' h2 hg hg' _
    refine hK g cap' w' ⟨Nat.le_trans h.base hg.size, rowT_apart h.T h.C hg, h.C.push2 h.P h2 hg rfl hg', ?_, ?_⟩ (grown_below2 hg h.base fun g e => (h.C.own_lt g e).1)
    · have h1 := HoldP.mono (Y := fun q => B ≤ q ∧ uv.ownBlock ≠ some q ∧ uk.ownBlock ≠ some q ∧ q ≠ g) (fun q hq hlt => ⟨hq.1, hq.2.1, hq.2.2, fun e => by
        subst e
        rcases hg' with e | e
        · exact hq.2.1 e
        · omega⟩) z h.P
      exact HoldP.mono (fun q hq _ => ⟨hq.1, fun e => hq.2.2.2 (own_of e), hq.2.2.1⟩) z (HoldP.keep hg.size (fun q hq hlt => hg.block q hlt (fun e => hq.2.1 e.symm)) z h1)
    · intro e he
      obtain ⟨b1, b2, b3⟩ := h.box e he
      refine ⟨(hg.block _ (lt_of_heap b1) (fun e => b2 e.symm)).trans b1, fun e2 => ?_, b3⟩
      have e' := own_of e2
      rcases hg' with e3 | e3
      · exact b2 (by rw [e']; exact e3)
      · have := lt_of_heap b1
        omega
end Go.Proofs.YtlfbnfphocpgeaaGreatDoor.Tre
namespace Go.Proofs.YtlfbnfphocpgeaaGreatDoor.Jdec
open Go.RowKit Kit Txt
open Utf (nb)
open Tre (Val HoldF HoldP RowT RowC KsP)
theorem wp_pushT {ops : Array Oper} {rest : List Oper} {o : Oper} {a : Act} {w : World} {Q : Exit → Act → World → Prop} (hgd : o.guard = none) (s x : Operand)
    (ho : o.op = .call { callee := .builtin .append, args := #[s, x], argTypes := #[26, 26] }) (B : Nat) {u : Value} {ls : List (List UInt8)} {l : List UInt8} {N cap m : Nat} (hm : ls.length = m) (hs : a.eval s = u) (hx : a.eval x = .slice (some ⟨N, 0, none⟩) 1 cap)
    (hN : w.cell? ⟨N, 0, none⟩ = some (.string (txt l))) (h : RowT B w u ls) (hn : m < 1000000) (hbw : B ≤ w.heap.size)
    (hK : ∀ g cap' w', RowT B w' (.slice (some ⟨g, 0, none⟩) (m + 1) cap') (ls ++ [l]) → w.grownBy w' u.ownBlock → (u.ownBlock = some g ∨ g = w.heap.size) → wpList Tryz.prog ops Q rest (a.put o.dst (.slice (some ⟨g, 0, none⟩) (m + 1) cap')) w') :
    wpList Tryz.prog ops Q (o :: rest) a w := by
  subst hm
  obtain ⟨i0, hi, hz0, hz1, hz2⟩ := info_parts Tre.infoText
  refine wpList_append_lies w hgd s x 26 ho B 9 i0 (.string ⟨#[]⟩) 1 16 Tryz.underlying26 hi hz0 hz1 hz2 rfl (by decide) u ls.length _ hs h ⟨N, 0, none⟩ 1 cap [.string (txt l)] hx rfl ?_ (by simp [Value.oneCell']) (by decide) (by unfold maxLen; omega) (by omega) hbw w.heap.size rfl ?_
  · intro j y hy
    match j with
    | 0 =>
      simp at hy
      subst hy
      rw [Tre.addr_at, hN]
    | j + 1 => simp at hy
  · intro g cap' w' h2 h3 h4 _
    refine hK g cap' w' ?_ h3 h4
    unfold RowT
    rw [List.map_append, List.length_append]
    exact h2
theorem skipAt_ge {l : List UInt8} {i : Nat} (h : i ≤ l.length) : i ≤ skipAt l i := by
  unfold skipAt
  have := skip_le (l.drop i)
  rw [List.length_drop] at this
  omega
theorem TellE.bad2 {α : Type} {C : Value → α → Prop} {n j : Nat} {g : Got α} {r : List UInt8} (h : g = .no r j) {k : Int} (hk : k ≠ 0) (k0 : Int) (b0 b1 : Bool) (d : ByteArray) (x0 : Int) (t : ByteArray) (a1 : Option Addr) (n1 m1 : Nat) (a2 : Option Addr) (n2 m2 : Nat) (a p : Int) :
    TellE C n g (.returned (.agg #[.int .i64 k0, .bool b0, .bool b1, .string d, .int .i64 x0, .string t, .slice a1 n1 m1, .slice a2 n2 m2, .int .i64 a, .int .i64 p, .int .i64 k])) := ⟨_, _, _, _, _, _, _, _, _, _, _, _, _, _, _, rfl, .inr ⟨⟨r, j, h⟩, hk⟩⟩
theorem holdF_cells {S : Nat} {w : World} {v : Val} {z0 z1 z2 z3 z4 z5 z6 z7 : Value} (h : HoldF S w (.agg #[z0, z1, z2, z3, z4, z5, z6, z7]) v) : HoldP (S ≤ ·) w [z0, z1, z2, z3, z4, z5, z6, z7] v := by
  obtain ⟨cs, hu, hp⟩ := h
  injection hu with hu
  have e := congrArg Array.toList hu
  rw [List.toList_toArray] at e
  rw [show [z0, z1, z2, z3, z4, z5, z6, z7] = cs from e]
  exact hp
theorem many_start {val : List UInt8 → Got Val} {l : List UInt8} {q : Nat} {obj : Bool} (h : nb l q = (opening obj).toNat) :
    many val (l.drop q) = if nb l (skipAt l (q + 1)) = (close obj).toNat then .ok (made obj [] []) (l.drop (skipAt l (q + 1) + 1)) else items val obj [] [] (l.drop (skipAt l (q + 1))) := by
  have h1 : (l.drop q).head? = some (opening obj) := (head_at l q _ (by cases obj <;> decide)).2 h
  have e : decide ((l.drop q).head? = some 123) = obj := by
    rw [h1]
    cases obj <;> decide
  have hc := head_at l (skipAt l (q + 1)) (close obj) (by cases obj <;> decide)
  unfold many
  rw [e, List.tail_drop, ← skipAt_drop, List.tail_drop]
  simp only [hc]
theorem after_item {val : List UInt8 → Got Val} {l : List UInt8} {j : Nat} {obj : Bool} {ks : List (List UInt8)} {kids : List Val} :
    atHead val obj false ks kids (l.drop j) = if nb l j = (close obj).toNat then .ok (made obj ks kids) (l.drop (j + 1)) else if nb l j ≠ 44 then here (l.drop j) else items val obj ks kids (l.drop (skipAt l (j + 1))) := by
  have hc := head_at l j (close obj) (by cases obj <;> decide)
  have hd := head_at l j 44 (by decide)
  unfold atHead
  rw [List.tail_drop, ← skipAt_drop]
  simp only [hc, ne_eq, hd, Bool.false_eq_true, if_false]
  rfl
theorem part_lst (val : List UInt8 → Got Val) (keys : List (List UInt8)) (l : List UInt8) : part val false keys l = match val l with | .no r e => .no r e | .ok x r => .ok (keys, x) r := rfl
theorem part_field (val : List UInt8 → Got Val) (keys : List (List UInt8)) (l : List UInt8) : part val true keys l =
    match field keys l with
    | .no r e => .no r e
    | .ok k r1 => match val r1 with
      | .no r e => .no r e
      | .ok x r => .ok (keys ++ [k], x) r := by
  unfold part
  rw [show named true keys l = (match field keys l with | .ok k r => .ok (keys ++ [k]) r | .no r e => .no r e) from rfl]
  cases field keys l <;> rfl
theorem here_no {α : Type} (l : List UInt8) : ∃ r j, (here l : Got α) = .no r j := by
  unfold here
  split
  · exact ⟨_, _, rfl⟩
  · exact ⟨_, _, rfl⟩
theorem here_ne (l : List UInt8) (q : Nat) : hereE l q ≠ 0 := by unfold hereE; split <;> decide
def kindI (obj : Bool) : Int := if obj then 6 else 5
theorem made_holdF {B B0 : Nat} {w : World} {uk uv : Value} {keys : List (List UInt8)} {kids : List Val} {cs : List (List Value)} {N : Option Nat} (obj : Bool) (hT : RowT B w uk keys) (hC : RowC N B w uv kids cs) (hB : B0 ≤ B) :
    HoldF B0 w (.agg #[.int .i64 (kindI obj), .bool false, .bool false, .string ⟨#[]⟩, .int .i64 0, .string ⟨#[]⟩, uk, uv]) (made obj keys kids) := by
  obtain ⟨a, c, rfl, h1, h2, h3⟩ := hC.holds
  refine ⟨[.int .i64 (kindI obj), .bool false, .bool false, .string ⟨#[]⟩, .int .i64 0, .string ⟨#[]⟩, uk, .slice a kids.length c], rfl, ?_⟩
  unfold made
  rw [HoldP]
  refine ⟨uk, a, c, ?_, KsP.mono hT.holds (fun g h _ => Nat.le_trans hB h), h1, h2, ?_⟩
  · cases obj <;> rfl
  · rcases h3 with h | ⟨g, off, e, hg, hgl, hh⟩
    · exact .inl h
    · exact .inr ⟨g, off, e, Nat.le_trans hB hg, hgl, Tre.HoldsP.mono (fun g h _ => Nat.le_trans hB h) _ hh⟩
/-- Eleven stores into a block that a value doesn't lie in. -/
theorem holdF_set11 {S B g : Nat} {W : World} {u : Value} {v : Val} (h : HoldF S W u v) (hg : g < S) (hB : B ≤ S) (v0 v1 v2 v3 v4 v5 v6 v7 v8 v9 v10 : Value) :
    HoldF B (((((((((((W.setCell ⟨g, 0, none⟩ v0).setCell ⟨g, 1, none⟩ v1).setCell ⟨g, 2, none⟩ v2).setCell ⟨g, 3, none⟩ v3).setCell ⟨g, 4, none⟩ v4).setCell ⟨g, 5, none⟩ v5).setCell ⟨g, 6, none⟩ v6).setCell ⟨g, 7, none⟩ v7).setCell ⟨g, 8, none⟩ v8).setCell ⟨g, 9, none⟩ v9).setCell ⟨g, 10, none⟩ v10) u v := by
  obtain ⟨cs, hu, hp⟩ := h
  refine ⟨cs, hu, HoldP.mono (fun q hq _ => Nat.le_trans hB hq) v (HoldP.keep (by simp [World.setCell, Array.size_modify]) (fun k hk _ => ?_) v hp)⟩
  have hne : k ≠ g := by have : S ≤ k := hk; omega
  simp only [Tre.setc_other _ hne]
theorem new8R (w : World) (c : List Value) (_hc : c.length = 8) : ∀ j, j < 8 → (w.alloc (.cells c.toArray 29)).cell? ⟨w.heap.size, j, none⟩ = c[j]? := fun j _ => by
  rw [cell_of (World.alloc_heap_new w _)]
  simp
theorem rowT_block {B g : Nat} {w : World} {u : Value} {ls : List (List UInt8)} (h : RowT B w u ls) (e : u.ownBlock = some g) : ∃ cur : Array Value, w.heap[g]? = some (.cells cur 9 (0, 0)) := by
  rcases h.2 with ⟨rfl, _⟩ | ⟨g', cap, cur, rfl, _, hb, _⟩
  · cases e
  · have e' : g' = g := by simpa [Value.ownBlock] using e
    subst e'
    exact ⟨cur, hb⟩
/-- The value that is being read lies in block B + 1, its rows behind; the result's block B is untouched. -/
structure Mid (B : Nat) (obj : Bool) (uk : Value) (keys : List (List UInt8)) (uv : Value) (kids : List Val) (cs : List (List Value)) (w : World) : Prop where
  base : B + 2 ≤ w.heap.size
  got : w.heap[B]? = some (.cells #[.int .i64 0, .bool false, .bool false, .string ⟨#[]⟩, .int .i64 0, .string ⟨#[]⟩, .slice none 0 0, .slice none 0 0, .int .i64 0, .int .i64 0, .int .i64 0] 31 (0, 0))
  val : w.heap[B + 1]? = some (.cells #[.int .i64 (kindI obj), .bool false, .bool false, .string ⟨#[]⟩, .int .i64 0, .string ⟨#[]⟩, uk, uv] 29 (0, 0))
  T : RowT (B + 2) w uk keys
  C : RowC uk.ownBlock (B + 2) w uv kids cs
theorem Mid.below {B : Nat} {obj : Bool} {uk uv : Value} {keys : List (List UInt8)} {kids : List Val} {cs : List (List Value)} {w w' : World} (h : Mid B obj uk keys uv kids cs w) (k : Below w.heap.size w w') : Mid B obj uk keys uv kids cs w' :=
  ⟨Nat.le_trans h.base k.size, (k.block _ (lt_of_heap h.got)).trans h.got, (k.block _ (lt_of_heap h.val)).trans h.val, h.T.below k, h.C.below k⟩
theorem Mid.first {B : Nat} (obj : Bool) {w : World} (h1 : B + 2 ≤ w.heap.size) (h2 : w.heap[B]? = some (.cells #[.int .i64 0, .bool false, .bool false, .string ⟨#[]⟩, .int .i64 0, .string ⟨#[]⟩, .slice none 0 0, .slice none 0 0, .int .i64 0, .int .i64 0, .int .i64 0] 31 (0, 0))) (h3 : w.heap[B + 1]? = some (.cells #[.int .i64 (kindI obj), .bool false, .bool false, .string ⟨#[]⟩, .int .i64 0, .string ⟨#[]⟩, .slice none 0 0, .slice none 0 0] 29 (0, 0))) : Mid B obj (.slice none 0 0) [] (.slice none 0 0) [] [] w :=
  ⟨h1, h2, h3, RowT.nil _ _, RowC.nil _ _ _⟩
theorem Mid.keys {B g cap : Nat} {obj : Bool} {uk uv : Value} {keys : List (List UInt8)} {kids : List Val} {cs : List (List Value)} {w w' : World} {k : List UInt8} {m : Nat} (h : Mid B obj uk keys uv kids cs w) (hT : RowT (B + 2) w' (.slice (some ⟨g, 0, none⟩) m cap) (keys ++ [k])) (hg : w.grownBy w' uk.ownBlock) (hn : uk.ownBlock = some g ∨ g = w.heap.size) :
    Mid B obj (.slice (some ⟨g, 0, none⟩) m cap) (keys ++ [k]) uv kids cs (w'.setCell ⟨B + 1, 6, none⟩ (.slice (some ⟨g, 0, none⟩) m cap)) := by
  have hl : ∀ x, uk.ownBlock = some x → B + 2 ≤ x := fun x e => (Tre.rowT_lt h.T x e).1
  have g2 := grown_cell w' (B + 1) 6 (.slice (some ⟨g, 0, none⟩) m cap)
  have hC : RowC (Value.slice (some ⟨g, 0, none⟩) m cap).ownBlock (B + 2) w' uv kids cs := h.C.renew hg (fun x e => Tre.rows_diff h.T h.C x e) (fun x e => by
    have e' := Tre.own_of e
    subst e'
    exact hn)
  refine ⟨?_, ?_, ?_, hT.other g2 (by omega), hC.other g2 (by omega)⟩
  · have := hg.size
    have := g2.size
    have := h.base
    omega
  · exact (g2.block _ (by have := hg.size; have := h.base; omega) (by simp)).trans ((hg.block _ (lt_of_heap h.got) (fun e => by have := hl _ e.symm; omega)).trans h.got)
  · have := set_of ((hg.block _ (lt_of_heap h.val) (fun e => by have := hl _ e.symm; omega)).trans h.val) 6 (.slice (some ⟨g, 0, none⟩) m cap)
    simpa using this
theorem Mid.kids {B g cap : Nat} {obj : Bool} {uk uv : Value} {keys : List (List UInt8)} {kids : List Val} {cs cs' : List (List Value)} {w w' : World} {x : Val} {m : Nat} (h : Mid B obj uk keys uv kids cs w) (hC : RowC uk.ownBlock (B + 2) w' (.slice (some ⟨g, 0, none⟩) m cap) (kids ++ [x]) cs') (hg : w.grownBy w' uv.ownBlock) :
    Mid B obj uk keys (.slice (some ⟨g, 0, none⟩) m cap) (kids ++ [x]) cs' (w'.setCell ⟨B + 1, 7, none⟩ (.slice (some ⟨g, 0, none⟩) m cap)) := by
  have hl : ∀ x, uv.ownBlock = some x → B + 2 ≤ x := fun x e => (h.C.own_lt x e).1
  have g2 := grown_cell w' (B + 1) 7 (.slice (some ⟨g, 0, none⟩) m cap)
  have hT : RowT (B + 2) w' uk keys := Tre.rowT_apart h.T h.C hg
  refine ⟨?_, ?_, ?_, hT.other g2 (by omega), hC.other g2 (by omega)⟩
  · have := hg.size
    have := g2.size
    have := h.base
    omega
  · exact (g2.block _ (by have := hg.size; have := h.base; omega) (by simp)).trans ((hg.block _ (lt_of_heap h.got) (fun e => by have := hl _ e.symm; omega)).trans h.got)
  · have := set_of ((hg.block _ (lt_of_heap h.val) (fun e => by have := hl _ e.symm; omega)).trans h.val) 7 (.slice (some ⟨g, 0, none⟩) m cap)
    simpa using this
theorem Mid.keysAt {B : Nat} {obj : Bool} {uk uv : Value} {keys : List (List UInt8)} {kids : List Val} {cs : List (List Value)} {w : World} (h : Mid B obj uk keys uv kids cs w) : KeysAt w uk keys := by
  obtain ⟨a, c, e, -, -, hh⟩ := h.T.holds
  exact ⟨a, c, e, hh.imp id fun ⟨g, off, h1, _, h2, h3⟩ => ⟨g, off, h1, h2, h3⟩⟩
end Go.Proofs.YtlfbnfphocpgeaaGreatDoor.Jdec
