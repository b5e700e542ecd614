/- The reader of package jdec as it landed: word, null, yes, no. Nothing is claimed here. -/
import Derived.Test.YtehpjidajmoggaaGreatDoorJdecRdr
namespace Go.Proofs.YtehpjidajmoggaaGreatDoor.Jdec
open Go.RowKit Kit Txt
open Utf (nb)
open Tre (Val HoldF zeroV)

theorem word_end (v : Val) {W l : List UInt8} {i q : Nat} (h : W.length ≤ i) : word v (W.drop i) (l.drop q) = .ok v (l.drop q) := by
  rw [List.drop_eq_nil_of_le h, word]
theorem word_go (v : Val) {W l : List UInt8} {i q : Nat} (h : i < W.length) (hw : wantE W[i] (l.drop q) = 0) : q < l.length ∧ word v (W.drop i) (l.drop q) = word v (W.drop (i + 1)) (l.drop (q + 1)) := by
  by_cases hq : q < l.length
  · refine ⟨hq, ?_⟩
    rw [want_at hq, nb_get hq] at hw
    rw [List.drop_eq_getElem_cons h, List.drop_eq_getElem_cons hq, word, if_pos]
    by_cases e : l[q].toNat = W[i].toNat
    · exact UInt8.toNat_inj.1 e
    · rw [if_neg e] at hw
      cases hw
  · rw [want_past (by omega)] at hw
    cases hw
theorem word_no (v : Val) {W l : List UInt8} {i q : Nat} (h : i < W.length) (hw : wantE W[i] (l.drop q) ≠ 0) : word v (W.drop i) (l.drop q) = .no (l.drop q) (wantE W[i] (l.drop q)) := by
  by_cases hq : q < l.length
  · rw [want_at hq, nb_get hq] at hw ⊢
    rw [List.drop_eq_getElem_cons h, List.drop_eq_getElem_cons hq, word, if_neg, if_neg]
    · intro e
      rw [if_pos e] at hw
      exact hw rfl
    · intro e
      rw [if_pos (by rw [e])] at hw
      exact hw rfl
  · have hq' : l.length ≤ q := by omega
    rw [want_past hq', List.drop_eq_getElem_cons h, List.drop_eq_nil_of_le hq', word]

/-- What a method of the reader tells, and where it is then. -/
def Told (R : Nat) (s : List UInt8) (u : Value) (o : Int) (w : World) (g : Got Val) (e : Ending) (w' : World) : Prop :=
  w.grownBy w' (some R) ∧ match g with
  | .ok v r => ∃ y, e = .returned (.tuple #[y, .int .i64 0]) ∧ HoldF w.heap.size w' y v ∧ Rdr R s (s.length - r.length) o u w'
  | .no r k => e = .returned (.tuple #[zeroV, .int .i64 k]) ∧ ∃ o' : Int, Rdr R s (s.length - r.length) o' u w'
theorem Told.ok {R : Nat} {s : List UInt8} {u : Value} {o : Int} {w : World} {g : Got Val} {v : Val} {r : List UInt8} {y : Value} {w' : World} {q : Nat} (hg : g = .ok v r) (hq : s.length - r.length = q) (k : w.grownBy w' (some R)) (hy : HoldF w.heap.size w' y v) (h : Rdr R s q o u w') :
    Told R s u o w g (.returned (.tuple #[y, .int .i64 0])) w' := by
  subst hg; subst hq
  exact ⟨k, y, rfl, hy, h⟩
theorem Told.no {R : Nat} {s : List UInt8} {u : Value} {o o' : Int} {w : World} {g : Got Val} {k : Nat} {r : List UInt8} {w' : World} {q : Nat} (hg : g = .no r k) (hq : s.length - r.length = q) (kk : w.grownBy w' (some R)) (h : Rdr R s q o' u w') :
    Told R s u o w g (.returned (.tuple #[zeroV, .int .i64 k])) w' := by
  subst hg; subst hq
  exact ⟨kk, rfl, o', h⟩
theorem holdF_form {B : Nat} {w : World} {y : Value} {v : Val} (h : HoldF B w y v) : ∃ pk ck a c, y = .agg #[.int .i64 v.kind, .bool v.is, .bool v.num.neg, .string (txt v.num.dig), .int .i64 v.num.exp, .string (txt v.str), .slice pk v.keys.length ck, .slice a v.kids.length c] := by
  obtain ⟨k, b, n, s, ks, vs⟩ := v
  obtain ⟨cs, rfl, hc⟩ := h
  rw [Tre.HoldP] at hc
  obtain ⟨uk, a, c, rfl, ⟨pk, ck, rfl, -⟩, -⟩ := hc
  exact ⟨pk, ck, a, c, rfl⟩
theorem Told.grown {R : Nat} {s : List UInt8} {u : Value} {o : Int} {w : World} {g : Got Val} {e : Ending} {w' : World} (h : Told R s u o w g e w') : w.grownBy w' (some R) := h.1
/-- Two results, the first one a value: their form. -/
theorem Told.form {R : Nat} {s : List UInt8} {u : Value} {o : Int} {w : World} {g : Got Val} {e : Ending} {w' : World} (h : Told R s u o w g e w') : ∃ (k : Int) (b : Bool) (n : Num.Dec) (t : List UInt8) (pk : Option Addr) (lk ck : Nat) (a : Option Addr) (lv c ek : Nat),
    e = .returned (.tuple #[.agg #[.int .i64 k, .bool b, .bool n.neg, .string (txt n.dig), .int .i64 n.exp, .string (txt t), .slice pk lk ck, .slice a lv c], .int .i64 ek]) := by
  cases g with
  | ok v r =>
    obtain ⟨-, y, rfl, hy, -⟩ := h
    obtain ⟨pk, ck, a, c, rfl⟩ := holdF_form hy
    exact ⟨_, _, v.num, v.str, _, _, _, _, _, _, 0, rfl⟩
  | no r k =>
    obtain ⟨-, rfl, -⟩ := h
    exact ⟨0, false, Num.zero, [], _, _, _, _, _, _, k, rfl⟩
/-- It is told in a later world, where what the call made, and the reader, are as they were. -/
theorem Told.move {R : Nat} {s : List UInt8} {u : Value} {o : Int} {w w0 w2 : World} {g : Got Val} {e : Ending} {w' : World} (h : Told R s u o w g e w') (k : w0.grownBy w2 (some R)) (hz : w0.heap.size ≤ w.heap.size) (hz2 : w'.heap.size ≤ w2.heap.size) (hk : ∀ i, w.heap.size ≤ i ∨ i = R → i < w'.heap.size → w2.heap[i]? = w'.heap[i]?) : Told R s u o w0 g e w2 := by
  cases g with
  | ok v r =>
    obtain ⟨-, y, rfl, ⟨cs, hcs, hP⟩, hr⟩ := h
    refine ⟨k, y, rfl, ⟨cs, hcs, ?_⟩, (hk R (.inr rfl) (lt_of_heap hr)).trans hr⟩
    exact Tre.HoldP.mono (fun g hg _ => Nat.le_trans hz hg) v (Tre.HoldP.keep hz2 (fun g hg hlt => hk g (.inl hg) hlt) v hP)
  | no r kk =>
    obtain ⟨-, rfl, o', hr⟩ := h
    exact ⟨k, rfl, o', (hk R (.inr rfl) (lt_of_heap hr)).trans hr⟩
/-- The result is stored in a block of the caller's. -/
theorem Told.stored {R G : Nat} {s : List UInt8} {u : Value} {o : Int} {w w0 w2 : World} {g : Got Val} {e : Ending} {w' : World} (h : Told R s u o w g e w') (k : w0.grownBy w (some R)) (k2 : w'.grownBy w2 (some G)) (hG : w0.heap.size ≤ G) (hG2 : G < w.heap.size) (hR : R < w0.heap.size) : Told R s u o w0 g e w2 :=
  h.move (grown_on (grown_trans k h.1) k2 hG) k.size k2.size fun i hi hlt => k2.block i hlt (fun e => by cases e; omega)
theorem drop_at {s : List UInt8} {q : Nat} (h : q ≤ s.length) : s.length - (s.drop q).length = q := by rw [List.length_drop]; omega
/-- The cells of the zero value. -/
def zeros : Array Value := #[.int .i64 0, .bool false, .bool false, .string ⟨#[]⟩, .int .i64 0, .string ⟨#[]⟩, .slice none 0 0, .slice none 0 0]

set_option maxRecDepth 100000 in
set_option maxHeartbeats 8000000 in
theorem mword_any {w : World} {R : Nat} {s W : List UInt8} {q : Nat} {o : Int} {u : Value} {kk : Int} {bb : Bool} (v : Val) (hs : s.length < 100000) (hW : W.length ≤ 10) (hq : q ≤ s.length) (h : Rdr R s q o u w)
    (hv : ∀ B wx, HoldF B wx (.agg #[.int .i64 kk, .bool bb, .bool false, .string ⟨#[]⟩, .int .i64 0, .string ⟨#[]⟩, .slice none 0 0, .slice none 0 0]) v) :
    Calls Tryz.prog 42 #[rp R, .string (txt W), .agg #[.int .i64 kk, .bool bb, .bool false, .string ⟨#[]⟩, .int .i64 0, .string ⟨#[]⟩, .slice none 0 0, .slice none 0 0]] w (Told R s u o w (word v W (s.drop q))) := by
  have hz := txt_size s
  have hzW := txt_size W
  have hR := lt_of_heap h
  have hA0 := new_of (World.alloc_heap_new w (.cells #[.int .i64 kk, .bool bb, .bool false, .string ⟨#[]⟩, .int .i64 0, .string ⟨#[]⟩, .slice none 0 0, .slice none 0 0] 28)) (.cells #[.int .i64 0, .bool false, .bool false, .string ⟨#[]⟩, .int .i64 0, .string ⟨#[]⟩, .slice none 0 0, .slice none 0 0] 28)
  have hB0 := World.alloc_heap_new (w.alloc (.cells #[.int .i64 kk, .bool bb, .bool false, .string ⟨#[]⟩, .int .i64 0, .string ⟨#[]⟩, .slice none 0 0, .slice none 0 0] 28)) (.cells #[.int .i64 0, .bool false, .bool false, .string ⟨#[]⟩, .int .i64 0, .string ⟨#[]⟩, .slice none 0 0, .slice none 0 0] 28)
  rw [World.size_alloc] at hB0
  have g0 := grown_alloc (grown_alloc (World.grownBy.refl w (some R)) (.cells #[.int .i64 kk, .bool bb, .bool false, .string ⟨#[]⟩, .int .i64 0, .string ⟨#[]⟩, .slice none 0 0, .slice none 0 0] 28)) (.cells #[.int .i64 0, .bool false, .bool false, .string ⟨#[]⟩, .int .i64 0, .string ⟨#[]⟩, .slice none 0 0, .slice none 0 0] 28)
  have h0 : Rdr R s q o u ((w.alloc (.cells #[.int .i64 kk, .bool bb, .bool false, .string ⟨#[]⟩, .int .i64 0, .string ⟨#[]⟩, .slice none 0 0, .slice none 0 0] 28)).alloc (.cells #[.int .i64 0, .bool false, .bool false, .string ⟨#[]⟩, .int .i64 0, .string ⟨#[]⟩, .slice none 0 0, .slice none 0 0] 28)) := new_of (new_of h _) _
  have HV := Lib.hid hv
  clear hv
  unfold rp
  go_enter Tryz.func42, Tryz.ntmps42
  go_wp2_with fail
  go_loopw [12] (fun a wr => ∃ i : Nat, a = .int .i64 i ∧ i ≤ W.length ∧ q + i ≤ s.length ∧ word v W (s.drop q) = word v (W.drop i) (s.drop (q + i)) ∧ Rdr R s (q + i) o u wr ∧ wr.heap[w.heap.size]? = some (.cells #[.int .i64 kk, .bool bb, .bool false, .string ⟨#[]⟩, .int .i64 0, .string ⟨#[]⟩, .slice none 0 0, .slice none 0 0] 28 (0, 0)) ∧ wr.heap[w.heap.size + 1]? = some (.cells #[.int .i64 0, .bool false, .bool false, .string ⟨#[]⟩, .int .i64 0, .string ⟨#[]⟩, .slice none 0 0, .slice none 0 0] 28 (0, 0)) ∧ w.grownBy wr (some R)) (fun a _ => W.length - (intOf a).toNat)
  case atStart => exact ⟨0, rfl, by omega, by omega, rfl, h0, hA0, hB0, g0⟩
  case round =>
    clear hA0 hB0 g0 h0 h
    obtain ⟨i, rfl, hi, hqi, hk, hr, hA, hB, hg⟩ := hrel
    have hwi : IntKind.i64.wrap ((i : Int) + 1) = (i : Int) + 1 := by simp only [IntKind.wrap, IntKind.signed, IntKind.bits]; simp; omega
    by_cases hlt : i < W.length
    · have hlt1 : decide (i < W.length) = true := decide_eq_true hlt
      have hlt' : (i : Int) < (W.length : Int) := by omega
      have hix := idx hlt
      rw [nb_get hlt] at hix
      have hwt := want_any (c := W[i]) hs hqi hr rfl
      by_cases he : wantE W[i] (s.drop (q + i)) = 0
      · obtain ⟨hlq, hk2⟩ := word_go v hlt he
        rw [wantQ, he, if_pos rfl] at hwt
        have HK := Lib.hid (hk.trans hk2)
        have HW := Lib.hid hwt
        clear hk hk2 hwt he
        generalize (W[i]).toNat = y at *
        unfold rp at HW
        go_wp2_with fail
        refine HW.out.mono ?_
        rintro e w1 ⟨rfl, k1, k2⟩
        have hA1 := kept_of hA k2 (by omega)
        have hB1 := kept_of hB k2 (by omega)
        have g1 := grown_trans hg k2
        go_wp2_with fail
        go_roundw
        case rel => exact ⟨i + 1, by go_num, by omega, by omega, HK.out, k1, hA1, hB1, g1⟩
        case measure => simp [intOf]; omega
      · have hk2 := word_no v hlt he
        rw [wantQ, if_neg he] at hwt
        have hne : (((wantE W[i] (s.drop (q + i)) : Nat) : Int) != 0) = true := by simpa using he
        generalize wantE W[i] (s.drop (q + i)) = ee at *
        have HK := Lib.hid (hk.trans hk2)
        have HW := Lib.hid hwt
        clear hk hk2 hwt he
        generalize (W[i]).toNat = y at *
        unfold rp at HW
        go_wp2_with fail
        refine HW.out.mono ?_
        rintro e w1 ⟨rfl, k1, k2⟩
        have hB1 := kept_of hB k2 (by omega)
        have hB2 := store8 hB1 (.int .i64 0) (.bool false) (.bool false) (.string ⟨#[]⟩) (.int .i64 0) (.string ⟨#[]⟩) (.slice none 0 0) (.slice none 0 0)
        have k3 := grown8 w1 (w.heap.size + 1) (.int .i64 0) (.bool false) (.bool false) (.string ⟨#[]⟩) (.int .i64 0) (.string ⟨#[]⟩) (.slice none 0 0) (.slice none 0 0)
        have g3 := grown_on (grown_trans hg k2) k3 (by omega)
        have r3 := k1.kept k3 (by simp; omega)
        obtain ⟨e0, e1, e2, e3, e4, e5, e6, e7⟩ := eight hB1
        obtain ⟨f0, f1, f2, f3, f4, f5, f6, f7⟩ := free8 hB1
        have HB := Lib.hid hB2
        have HG := Lib.hid g3
        have HR := Lib.hid r3
        clear hB2 g3 r3 k3
        go_wp2_with fail
        obtain ⟨d0, d1, d2, d3, d4, d5, d6, d7⟩ := eight HB.out
        refine bodyPost_ret (v := .tuple #[zeroV, .int .i64 ee]) (by simp [results, Tryz.results42, go_sem, zeroV, d0, d1, d2, d3, d4, d5, d6, d7]) rfl ?_
        exact .no HK.out (drop_at hqi) HG.out HR.out
    · obtain rfl : i = W.length := by omega
      have hlt1 : decide (W.length < W.length) = false := by simp
      have hk2 := hk.trans (word_end v (Nat.le_refl _))
      have hB2 := store8 hB (.int .i64 kk) (.bool bb) (.bool false) (.string ⟨#[]⟩) (.int .i64 0) (.string ⟨#[]⟩) (.slice none 0 0) (.slice none 0 0)
      have k3 := grown8 wr (w.heap.size + 1) (.int .i64 kk) (.bool bb) (.bool false) (.string ⟨#[]⟩) (.int .i64 0) (.string ⟨#[]⟩) (.slice none 0 0) (.slice none 0 0)
      have g3 := grown_on hg k3 (by omega)
      have r3 := hr.kept k3 (by simp; omega)
      obtain ⟨e0, e1, e2, e3, e4, e5, e6, e7⟩ := eight hB
      obtain ⟨f0, f1, f2, f3, f4, f5, f6, f7⟩ := free8 hB
      obtain ⟨a0, a1, a2, a3, a4, a5, a6, a7⟩ := eight hA
      have HK := Lib.hid hk2
      have HB := Lib.hid hB2
      have HG := Lib.hid g3
      have HR := Lib.hid r3
      clear hk hk2 hB2 g3 r3 k3
      go_wp2_with fail
      obtain ⟨d0, d1, d2, d3, d4, d5, d6, d7⟩ := eight HB.out
      refine bodyPost_ret (v := .tuple #[.agg #[.int .i64 kk, .bool bb, .bool false, .string ⟨#[]⟩, .int .i64 0, .string ⟨#[]⟩, .slice none 0 0, .slice none 0 0], .int .i64 0]) (by simp [results, Tryz.results42, go_sem, d0, d1, d2, d3, d4, d5, d6, d7]) rfl ?_
      exact .ok HK.out (drop_at hqi) HG.out (HV.out _ _) HR.out

/-- A value that is no list and no object, by its cells. -/
theorem flat_hold (k : Int) (b : Bool) (n : Num.Dec) (t : List UInt8) (B : Nat) (wx : World) : HoldF B wx (.agg #[.int .i64 k, .bool b, .bool n.neg, .string (txt n.dig), .int .i64 n.exp, .string (txt t), .slice none 0 0, .slice none 0 0]) ⟨k, b, n, t, [], []⟩ := by
  refine ⟨_, rfl, ?_⟩
  rw [Tre.HoldP]
  exact ⟨_, none, 0, rfl, ⟨none, 0, rfl, Nat.le_refl _, by omega, .inl rfl⟩, Nat.le_refl _, by omega, .inl rfl⟩

set_option maxRecDepth 100000 in
set_option maxHeartbeats 8000000 in
theorem mnull_any {w : World} {R : Nat} {s : List UInt8} {q : Nat} {o : Int} {u : Value} (hs : s.length < 100000) (hq : q ≤ s.length) (h : Rdr R s q o u w) :
    Calls Tryz.prog 25 #[rp R] w (Told R s u o w (word ⟨1, false, Num.zero, [], [], []⟩ [110, 117, 108, 108] (s.drop q))) := by
  have hR := lt_of_heap h
  have hB := World.alloc_heap_new w (.cells #[.int .i64 0, .bool false, .bool false, .string ⟨#[]⟩, .int .i64 0, .string ⟨#[]⟩, .slice none 0 0, .slice none 0 0] 28)
  have g0 := grown_alloc (World.grownBy.refl w (some R)) (.cells #[.int .i64 0, .bool false, .bool false, .string ⟨#[]⟩, .int .i64 0, .string ⟨#[]⟩, .slice none 0 0, .slice none 0 0] 28)
  have h0 : Rdr R s q o u (w.alloc (.cells #[.int .i64 0, .bool false, .bool false, .string ⟨#[]⟩, .int .i64 0, .string ⟨#[]⟩, .slice none 0 0, .slice none 0 0] 28)) := new_of h _
  have hw := mword_any (kk := 1) (bb := false) (W := [110, 117, 108, 108]) ⟨1, false, Num.zero, [], [], []⟩ hs (by decide) hq h0 (fun B wx => flat_hold 1 false Num.zero [] B wx)
  generalize hg : word ⟨1, false, Num.zero, [], [], []⟩ [110, 117, 108, 108] (s.drop q) = g at *
  have HW := Lib.hid hw
  clear hw hg h
  unfold rp txt at HW
  unfold rp
  go_enter Tryz.func25, Tryz.ntmps25
  go_wp2_with fail
  refine HW.out.mono ?_
  rintro e w1 hT
  obtain ⟨k0, b0, n0, t0, pk, lk, ck, ak, lv, cc, ek, rfl⟩ := hT.form
  have hB1 := kept_of hB hT.grown (by omega)
  have k3 := grown8 w1 w.heap.size (.int .i64 k0) (.bool b0) (.bool n0.neg) (.string (txt n0.dig)) (.int .i64 n0.exp) (.string (txt t0)) (.slice pk lk ck) (.slice ak lv cc)
  have hB2 := store8 hB1 (.int .i64 k0) (.bool b0) (.bool n0.neg) (.string (txt n0.dig)) (.int .i64 n0.exp) (.string (txt t0)) (.slice pk lk ck) (.slice ak lv cc)
  have hT2 := hT.stored g0 k3 (Nat.le_refl _) (by simp) hR
  obtain ⟨e0, e1, e2, e3, e4, e5, e6, e7⟩ := eight hB1
  obtain ⟨f0, f1, f2, f3, f4, f5, f6, f7⟩ := free8 hB1
  have HB := Lib.hid hB2
  have HT := Lib.hid hT2
  clear hB2 hT2 k3 hT
  go_wp2_with fail
  obtain ⟨d0, d1, d2, d3, d4, d5, d6, d7⟩ := eight HB.out
  refine bodyPost_ret (v := .tuple #[.agg #[.int .i64 k0, .bool b0, .bool n0.neg, .string (txt n0.dig), .int .i64 n0.exp, .string (txt t0), .slice pk lk ck, .slice ak lv cc], .int .i64 ek]) (by simp [results, Tryz.results25, go_sem, d0, d1, d2, d3, d4, d5, d6, d7]) rfl ?_
  exact HT.out

set_option maxRecDepth 100000 in
set_option maxHeartbeats 8000000 in
theorem myes_any {w : World} {R : Nat} {s : List UInt8} {q : Nat} {o : Int} {u : Value} (hs : s.length < 100000) (hq : q ≤ s.length) (h : Rdr R s q o u w) :
    Calls Tryz.prog 26 #[rp R] w (Told R s u o w (word ⟨2, true, Num.zero, [], [], []⟩ [116, 114, 117, 101] (s.drop q))) := by
  have hR := lt_of_heap h
  have hB := World.alloc_heap_new w (.cells #[.int .i64 0, .bool false, .bool false, .string ⟨#[]⟩, .int .i64 0, .string ⟨#[]⟩, .slice none 0 0, .slice none 0 0] 28)
  have g0 := grown_alloc (World.grownBy.refl w (some R)) (.cells #[.int .i64 0, .bool false, .bool false, .string ⟨#[]⟩, .int .i64 0, .string ⟨#[]⟩, .slice none 0 0, .slice none 0 0] 28)
  have h0 : Rdr R s q o u (w.alloc (.cells #[.int .i64 0, .bool false, .bool false, .string ⟨#[]⟩, .int .i64 0, .string ⟨#[]⟩, .slice none 0 0, .slice none 0 0] 28)) := new_of h _
  have hw := mword_any (kk := 2) (bb := true) (W := [116, 114, 117, 101]) ⟨2, true, Num.zero, [], [], []⟩ hs (by decide) hq h0 (fun B wx => flat_hold 2 true Num.zero [] B wx)
  generalize hg : word ⟨2, true, Num.zero, [], [], []⟩ [116, 114, 117, 101] (s.drop q) = g at *
  have HW := Lib.hid hw
  clear hw hg h
  unfold rp txt at HW
  unfold rp
  go_enter Tryz.func26, Tryz.ntmps26
  go_wp2_with fail
  refine HW.out.mono ?_
  rintro e w1 hT
  obtain ⟨k0, b0, n0, t0, pk, lk, ck, ak, lv, cc, ek, rfl⟩ := hT.form
  have hB1 := kept_of hB hT.grown (by omega)
  have k3 := grown8 w1 w.heap.size (.int .i64 k0) (.bool b0) (.bool n0.neg) (.string (txt n0.dig)) (.int .i64 n0.exp) (.string (txt t0)) (.slice pk lk ck) (.slice ak lv cc)
  have hB2 := store8 hB1 (.int .i64 k0) (.bool b0) (.bool n0.neg) (.string (txt n0.dig)) (.int .i64 n0.exp) (.string (txt t0)) (.slice pk lk ck) (.slice ak lv cc)
  have hT2 := hT.stored g0 k3 (Nat.le_refl _) (by simp) hR
  obtain ⟨e0, e1, e2, e3, e4, e5, e6, e7⟩ := eight hB1
  obtain ⟨f0, f1, f2, f3, f4, f5, f6, f7⟩ := free8 hB1
  have HB := Lib.hid hB2
  have HT := Lib.hid hT2
  clear hB2 hT2 k3 hT
  go_wp2_with fail
  obtain ⟨d0, d1, d2, d3, d4, d5, d6, d7⟩ := eight HB.out
  refine bodyPost_ret (v := .tuple #[.agg #[.int .i64 k0, .bool b0, .bool n0.neg, .string (txt n0.dig), .int .i64 n0.exp, .string (txt t0), .slice pk lk ck, .slice ak lv cc], .int .i64 ek]) (by simp [results, Tryz.results26, go_sem, d0, d1, d2, d3, d4, d5, d6, d7]) rfl ?_
  exact HT.out

set_option maxRecDepth 100000 in
set_option maxHeartbeats 8000000 in
theorem mno_any {w : World} {R : Nat} {s : List UInt8} {q : Nat} {o : Int} {u : Value} (hs : s.length < 100000) (hq : q ≤ s.length) (h : Rdr R s q o u w) :
    Calls Tryz.prog 27 #[rp R] w (Told R s u o w (word ⟨2, false, Num.zero, [], [], []⟩ [102, 97, 108, 115, 101] (s.drop q))) := by
  have hR := lt_of_heap h
  have hB := World.alloc_heap_new w (.cells #[.int .i64 0, .bool false, .bool false, .string ⟨#[]⟩, .int .i64 0, .string ⟨#[]⟩, .slice none 0 0, .slice none 0 0] 28)
  have g0 := grown_alloc (World.grownBy.refl w (some R)) (.cells #[.int .i64 0, .bool false, .bool false, .string ⟨#[]⟩, .int .i64 0, .string ⟨#[]⟩, .slice none 0 0, .slice none 0 0] 28)
  have h0 : Rdr R s q o u (w.alloc (.cells #[.int .i64 0, .bool false, .bool false, .string ⟨#[]⟩, .int .i64 0, .string ⟨#[]⟩, .slice none 0 0, .slice none 0 0] 28)) := new_of h _
  have hw := mword_any (kk := 2) (bb := false) (W := [102, 97, 108, 115, 101]) ⟨2, false, Num.zero, [], [], []⟩ hs (by decide) hq h0 (fun B wx => flat_hold 2 false Num.zero [] B wx)
  generalize hg : word ⟨2, false, Num.zero, [], [], []⟩ [102, 97, 108, 115, 101] (s.drop q) = g at *
  have HW := Lib.hid hw
  clear hw hg h
  unfold rp txt at HW
  unfold rp
  go_enter Tryz.func27, Tryz.ntmps27
  go_wp2_with fail
  refine HW.out.mono ?_
  rintro e w1 hT
  obtain ⟨k0, b0, n0, t0, pk, lk, ck, ak, lv, cc, ek, rfl⟩ := hT.form
  have hB1 := kept_of hB hT.grown (by omega)
  have k3 := grown8 w1 w.heap.size (.int .i64 k0) (.bool b0) (.bool n0.neg) (.string (txt n0.dig)) (.int .i64 n0.exp) (.string (txt t0)) (.slice pk lk ck) (.slice ak lv cc)
  have hB2 := store8 hB1 (.int .i64 k0) (.bool b0) (.bool n0.neg) (.string (txt n0.dig)) (.int .i64 n0.exp) (.string (txt t0)) (.slice pk lk ck) (.slice ak lv cc)
  have hT2 := hT.stored g0 k3 (Nat.le_refl _) (by simp) hR
  obtain ⟨e0, e1, e2, e3, e4, e5, e6, e7⟩ := eight hB1
  obtain ⟨f0, f1, f2, f3, f4, f5, f6, f7⟩ := free8 hB1
  have HB := Lib.hid hB2
  have HT := Lib.hid hT2
  clear hB2 hT2 k3 hT
  go_wp2_with fail
  obtain ⟨d0, d1, d2, d3, d4, d5, d6, d7⟩ := eight HB.out
  refine bodyPost_ret (v := .tuple #[.agg #[.int .i64 k0, .bool b0, .bool n0.neg, .string (txt n0.dig), .int .i64 n0.exp, .string (txt t0), .slice pk lk ck, .slice ak lv cc], .int .i64 ek]) (by simp [results, Tryz.results27, go_sem, d0, d1, d2, d3, d4, d5, d6, d7]) rfl ?_
  exact HT.out

end Go.Proofs.YtehpjidajmoggaaGreatDoor.Jdec
