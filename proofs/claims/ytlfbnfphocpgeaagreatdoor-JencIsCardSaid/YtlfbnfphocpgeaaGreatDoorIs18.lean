/- A part of what is_holds leans on (its texts, put together). Nothing is claimed here. -/
import Derived.Maps.AppendAt
import Derived.Test.YtlfbnfphocpgeaaGreatDoorIs16
namespace Go.Proofs.YtlfbnfphocpgeaaGreatDoor.Jdec
open Go.RowKit Kit Txt
open Utf (nb)
open Tre (Val HoldF zeroV)
theorem word_end (v : Val) {W l : List UInt8} {i q : Nat} (h : W.length ≤ i) : word v (W.drop i) (l.drop q) = .ok v (l.drop q) := by
 rw [List.drop_eq_nil_of_le h, word]
theorem word_go (v : Val) {W l : List UInt8} {i q : Nat} (h : i < W.length) (hw : wantE W[i] (l.drop q) = 0) : q < l.length ∧ word v (W.drop i) (l.drop q) = word v (W.drop (i + 1)) (l.drop (q + 1)) := by
 by_cases hq : q < l.length
 · refine ⟨hq, ?_⟩
   rw [want_at hq, nb_get hq] at hw
   rw [List.drop_eq_getElem_cons h, List.drop_eq_getElem_cons hq, word, if_pos]
   by_cases e : l[q].toNat = W[i].toNat
   · exact UInt8.toNat_inj.1 e
   · rw [if_neg e] at hw
     cases hw
 · rw [want_past (by omega)] at hw
   cases hw
theorem word_no (v : Val) {W l : List UInt8} {i q : Nat} (h : i < W.length) (hw : wantE W[i] (l.drop q) ≠ 0) : word v (W.drop i) (l.drop q) = .no (l.drop q) (wantE W[i] (l.drop q)) := by
 by_cases hq : q < l.length
 · rw [want_at hq, nb_get hq] at hw ⊢
   rw [List.drop_eq_getElem_cons h, List.drop_eq_getElem_cons hq, word, if_neg, if_neg]
   · intro e
     rw [if_pos e] at hw
     exact hw rfl
   · intro e
     rw [if_pos (by rw [e])] at hw
     exact hw rfl
 · have hq' : l.length ≤ q := by omega
   rw [want_past hq', List.drop_eq_getElem_cons h, List.drop_eq_nil_of_le hq', word]
def Told (R : Nat) (s : List UInt8) (u : Value) (o : Int) (w : World) (g : Got Val) (e : Ending) (w' : World) : Prop :=
 w.grownBy w' (some R) ∧ match g with
 | .ok v r => ∃ y, e = .returned (.tuple #[y, .int .i64 0]) ∧ HoldF w.heap.size w' y v ∧ Rdr R s (s.length - r.length) o u w'
 | .no r k => e = .returned (.tuple #[zeroV, .int .i64 k]) ∧ ∃ o' : Int, Rdr R s (s.length - r.length) o' u w'
theorem Told.ok {R : Nat} {s : List UInt8} {u : Value} {o : Int} {w : World} {g : Got Val} {v : Val} {r : List UInt8} {y : Value} {w' : World} {q : Nat} (hg : g = .ok v r) (hq : s.length - r.length = q) (k : w.grownBy w' (some R)) (hy : HoldF w.heap.size w' y v) (h : Rdr R s q o u w') :
   Told R s u o w g (.returned (.tuple #[y, .int .i64 0])) w' := by
 subst hg; subst hq
 exact ⟨k, y, rfl, hy, h⟩
theorem Told.no {R : Nat} {s : List UInt8} {u : Value} {o o' : Int} {w : World} {g : Got Val} {k : Nat} {r : List UInt8} {w' : World} {q : Nat} (hg : g = .no r k) (hq : s.length - r.length = q) (kk : w.grownBy w' (some R)) (h : Rdr R s q o' u w') :
   Told R s u o w g (.returned (.tuple #[zeroV, .int .i64 k])) w' := by
 subst hg; subst hq
 exact ⟨kk, rfl, o', h⟩
theorem holdF_form {B : Nat} {w : World} {y : Value} {v : Val} (h : HoldF B w y v) : ∃ pk ck a c, y = .agg #[.int .i64 v.kind, .bool v.is, .bool v.num.neg, .string (txt v.num.dig), .int .i64 v.num.exp, .string (txt v.str), .slice pk v.keys.length ck, .slice a v.kids.length c] := by
 obtain ⟨k, b, n, s, ks, vs⟩ := v
 obtain ⟨cs, rfl, hc⟩ := h
 rw [Tre.HoldP] at hc
 obtain ⟨uk, a, c, rfl, ⟨pk, ck, rfl, -⟩, -⟩ := hc
 exact ⟨pk, ck, a, c, rfl⟩
theorem Told.grown {R : Nat} {s : List UInt8} {u : Value} {o : Int} {w : World} {g : Got Val} {e : Ending} {w' : World} (h : Told R s u o w g e w') : w.grownBy w' (some R) := h.1
theorem Told.form {R : Nat} {s : List UInt8} {u : Value} {o : Int} {w : World} {g : Got Val} {e : Ending} {w' : World} (h : Told R s u o w g e w') : ∃ (k : Int) (b : Bool) (n : Num.Dec) (t : List UInt8) (pk : Option Addr) (lk ck : Nat) (a : Option Addr) (lv c ek : Nat),
   e = .returned (.tuple #[.agg #[.int .i64 k, .bool b, .bool n.neg, .string (txt n.dig), .int .i64 n.exp, .string (txt t), .slice pk lk ck, .slice a lv c], .int .i64 ek]) := by
 cases g with
 | ok v r =>
   obtain ⟨-, y, rfl, hy, -⟩ := h
   obtain ⟨pk, ck, a, c, rfl⟩ := holdF_form hy
   exact ⟨_, _, v.num, v.str, _, _, _, _, _, _, 0, rfl⟩
 | no r k =>
   obtain ⟨-, rfl, -⟩ := h
   exact ⟨0, false, Num.zero, [], _, _, _, _, _, _, k, rfl⟩
theorem Told.move {R : Nat} {s : List UInt8} {u : Value} {o : Int} {w w0 w2 : World} {g : Got Val} {e : Ending} {w' : World} (h : Told R s u o w g e w') (k : w0.grownBy w2 (some R)) (hz : w0.heap.size ≤ w.heap.size) (hz2 : w'.heap.size ≤ w2.heap.size) (hk : ∀ i, w.heap.size ≤ i ∨ i = R → i < w'.heap.size → w2.heap[i]? = w'.heap[i]?) : Told R s u o w0 g e w2 := by
 cases g with
 | ok v r =>
   obtain ⟨-, y, rfl, ⟨cs, hcs, hP⟩, hr⟩ := h
   refine ⟨k, y, rfl, ⟨cs, hcs, ?_⟩, (hk R (.inr rfl) (lt_of_heap hr)).trans hr⟩
   exact Tre.HoldP.mono (fun g hg _ => Nat.le_trans hz hg) v (Tre.HoldP.keep hz2 (fun g hg hlt => hk g (.inl hg) hlt) v hP)
 | no r kk =>
   obtain ⟨-, rfl, o', hr⟩ := h
   exact ⟨k, rfl, o', (hk R (.inr rfl) (lt_of_heap hr)).trans hr⟩
theorem Told.stored {R G : Nat} {s : List UInt8} {u : Value} {o : Int} {w w0 w2 : World} {g : Got Val} {e : Ending} {w' : World} (h : Told R s u o w g e w') (k : w0.grownBy w (some R)) (k2 : w'.grownBy w2 (some G)) (hG : w0.heap.size ≤ G) (hG2 : G < w.heap.size) (hR : R < w0.heap.size) : Told R s u o w0 g e w2 :=
 h.move (grown_on (grown_trans k h.1) k2 hG) k.size k2.size fun i hi hlt => k2.block i hlt (fun e => by cases e; omega)
theorem drop_at {s : List UInt8} {q : Nat} (h : q ≤ s.length) : s.length - (s.drop q).length = q := by rw [List.length_drop]; omega
set_option maxRecDepth 100000 in
set_option maxHeartbeats 8000000 in
theorem mword_any {w : World} {R : Nat} {s W : List UInt8} {q : Nat} {o : Int} {u : Value} {kk : Int} {bb : Bool} (v : Val) (hs : s.length < 100000) (hW : W.length ≤ 10) (hq : q ≤ s.length) (h : Rdr R s q o u w)
   (hv : ∀ B wx, HoldF B wx (.agg #[.int .i64 kk, .bool bb, .bool false, .string ⟨#[]⟩, .int .i64 0, .string ⟨#[]⟩, .slice none 0 0, .slice none 0 0]) v) :
   Calls Tryz.prog 68 #[rp R, .string (txt W), .agg #[.int .i64 kk, .bool bb, .bool false, .string ⟨#[]⟩, .int .i64 0, .string ⟨#[]⟩, .slice none 0 0, .slice none 0 0]] w (Told R s u o w (word v W (s.drop q))) := by
 have hz := txt_size s
 have hzW := txt_size W
 have hR := lt_of_heap h
 have hA0 := new_of (World.alloc_heap_new w (.cells #[.int .i64 kk, .bool bb, .bool false, .string ⟨#[]⟩, .int .i64 0, .string ⟨#[]⟩, .slice none 0 0, .slice none 0 0] 29)) (.cells #[.int .i64 0, .bool false, .bool false, .string ⟨#[]⟩, .int .i64 0, .string ⟨#[]⟩, .slice none 0 0, .slice none 0 0] 29)
 have hB0 := World.alloc_heap_new (w.alloc (.cells #[.int .i64 kk, .bool bb, .bool false, .string ⟨#[]⟩, .int .i64 0, .string ⟨#[]⟩, .slice none 0 0, .slice none 0 0] 29)) (.cells #[.int .i64 0, .bool false, .bool false, .string ⟨#[]⟩, .int .i64 0, .string ⟨#[]⟩, .slice none 0 0, .slice none 0 0] 29)
 rw [World.size_alloc] at hB0
 have g0 := grown_alloc (grown_alloc (World.grownBy.refl w (some R)) (.cells #[.int .i64 kk, .bool bb, .bool false, .string ⟨#[]⟩, .int .i64 0, .string ⟨#[]⟩, .slice none 0 0, .slice none 0 0] 29)) (.cells #[.int .i64 0, .bool false, .bool false, .string ⟨#[]⟩, .int .i64 0, .string ⟨#[]⟩, .slice none 0 0, .slice none 0 0] 29)
 have h0 : Rdr R s q o u ((w.alloc (.cells #[.int .i64 kk, .bool bb, .bool false, .string ⟨#[]⟩, .int .i64 0, .string ⟨#[]⟩, .slice none 0 0, .slice none 0 0] 29)).alloc (.cells #[.int .i64 0, .bool false, .bool false, .string ⟨#[]⟩, .int .i64 0, .string ⟨#[]⟩, .slice none 0 0, .slice none 0 0] 29)) := new_of (new_of h _) _
 have HV := Lib.hid hv
 clear hv
 unfold rp
 go_enter Tryz.func68, Tryz.ntmps68
 go_wp2_with fail
 go_loopw [12] (fun a wr => ∃ i : Nat, a = .int .i64 i ∧ i ≤ W.length ∧ q + i ≤ s.length ∧ word v W (s.drop q) = word v (W.drop i) (s.drop (q + i)) ∧ Rdr R s (q + i) o u wr ∧ wr.heap[w.heap.size]? = some (.cells #[.int .i64 kk, .bool bb, .bool false, .string ⟨#[]⟩, .int .i64 0, .string ⟨#[]⟩, .slice none 0 0, .slice none 0 0] 29 (0, 0)) ∧ wr.heap[w.heap.size + 1]? = some (.cells #[.int .i64 0, .bool false, .bool false, .string ⟨#[]⟩, .int .i64 0, .string ⟨#[]⟩, .slice none 0 0, .slice none 0 0] 29 (0, 0)) ∧ w.grownBy wr (some R)) (fun a _ => W.length - (intOf a).toNat)
 case atStart => exact ⟨0, rfl, by omega, by omega, rfl, h0, hA0, hB0, g0⟩
 case round =>
   clear hA0 hB0 g0 h0 h
   obtain ⟨i, rfl, hi, hqi, hk, hr, hA, hB, hg⟩ := hrel
   have hwi : IntKind.i64.wrap ((i : Int) + 1) = (i : Int) + 1 := by simp only [IntKind.wrap, IntKind.signed, IntKind.bits]; simp; omega
   by_cases hlt : i < W.length
   · have hlt1 : decide (i < W.length) = true := decide_eq_true hlt
     have hlt' : (i : Int) < (W.length : Int) := by omega
     have hix := idx hlt
     rw [nb_get hlt] at hix
     have hwt := want_any (c := W[i]) hs hqi hr rfl
     by_cases he : wantE W[i] (s.drop (q + i)) = 0
     · obtain ⟨hlq, hk2⟩ := word_go v hlt he
       rw [wantQ, he, if_pos rfl] at hwt
       have HK := Lib.hid (hk.trans hk2)
       have HW := Lib.hid hwt
       clear hk hk2 hwt he
       generalize (W[i]).toNat = y at *
       unfold rp at HW
       go_wp2_with fail
       refine HW.out.mono ?_
       rintro e w1 ⟨rfl, k1, k2⟩
       have hA1 := kept_of hA k2 (by omega)
       have hB1 := kept_of hB k2 (by omega)
       have g1 := grown_trans hg k2
       go_wp2_with fail
       go_roundw
       case rel => exact ⟨i + 1, by go_num, by omega, by omega, HK.out, k1, hA1, hB1, g1⟩
       case measure => simp [intOf]; omega
     · have hk2 := word_no v hlt he
       rw [wantQ, if_neg he] at hwt
       have hne : (((wantE W[i] (s.drop (q + i)) : Nat) : Int) != 0) = true := by simpa using he
       generalize wantE W[i] (s.drop (q + i)) = ee at *
       have HK := Lib.hid (hk.trans hk2)
       have HW := Lib.hid hwt
       clear hk hk2 hwt he
       generalize (W[i]).toNat = y at *
       unfold rp at HW
       go_wp2_with fail
       refine HW.out.mono ?_
       rintro e w1 ⟨rfl, k1, k2⟩
       have hB1 := kept_of hB k2 (by omega)
       have hB2 := store8 hB1 (.int .i64 0) (.bool false) (.bool false) (.string ⟨#[]⟩) (.int .i64 0) (.string ⟨#[]⟩) (.slice none 0 0) (.slice none 0 0)
       have k3 := grown8 w1 (w.heap.size + 1) (.int .i64 0) (.bool false) (.bool false) (.string ⟨#[]⟩) (.int .i64 0) (.string ⟨#[]⟩) (.slice none 0 0) (.slice none 0 0)
       have g3 := grown_on (grown_trans hg k2) k3 (by omega)
       have r3 := k1.kept k3 (by simp; omega)
       obtain ⟨e0, e1, e2, e3, e4, e5, e6, e7⟩ := eight hB1
       obtain ⟨f0, f1, f2, f3, f4, f5, f6, f7⟩ := free8 hB1
       have HB := Lib.hid hB2
       have HG := Lib.hid g3
       have HR := Lib.hid r3
       clear hB2 g3 r3 k3
       go_wp2_with fail
       obtain ⟨d0, d1, d2, d3, d4, d5, d6, d7⟩ := eight HB.out
       refine bodyPost_ret (v := .tuple #[zeroV, .int .i64 ee]) (by simp [results, Tryz.results68, go_sem, zeroV, d0, d1, d2, d3, d4, d5, d6, d7]) rfl ?_
       exact .no HK.out (drop_at hqi) HG.out HR.out
   · obtain rfl : i = W.length := by omega
     have hlt1 : decide (W.length < W.length) = false := by simp
     have hk2 := hk.trans (word_end v (Nat.le_refl _))
     have hB2 := store8 hB (.int .i64 kk) (.bool bb) (.bool false) (.string ⟨#[]⟩) (.int .i64 0) (.string ⟨#[]⟩) (.slice none 0 0) (.slice none 0 0)
     have k3 := grown8 wr (w.heap.size + 1) (.int .i64 kk) (.bool bb) (.bool false) (.string ⟨#[]⟩) (.int .i64 0) (.string ⟨#[]⟩) (.slice none 0 0) (.slice none 0 0)
     have g3 := grown_on hg k3 (by omega)
     have r3 := hr.kept k3 (by simp; omega)
     obtain ⟨e0, e1, e2, e3, e4, e5, e6, e7⟩ := eight hB
     obtain ⟨f0, f1, f2, f3, f4, f5, f6, f7⟩ := free8 hB
     obtain ⟨a0, a1, a2, a3, a4, a5, a6, a7⟩ := eight hA
     have HK := Lib.hid hk2
     have HB := Lib.hid hB2
     have HG := Lib.hid g3
     have HR := Lib.hid r3
     clear hk hk2 hB2 g3 r3 k3
     go_wp2_with fail
     obtain ⟨d0, d1, d2, d3, d4, d5, d6, d7⟩ := eight HB.out
     refine bodyPost_ret (v := .tuple #[.agg #[.int .i64 kk, .bool bb, .bool false, .string ⟨#[]⟩, .int .i64 0, .string ⟨#[]⟩, .slice none 0 0, .slice none 0 0], .int .i64 0]) (by simp [results, Tryz.results68, go_sem, d0, d1, d2, d3, d4, d5, d6, d7]) rfl ?_
     exact .ok HK.out (drop_at hqi) HG.out (HV.out _ _) HR.out
theorem flat_hold (k : Int) (b : Bool) (n : Num.Dec) (t : List UInt8) (B : Nat) (wx : World) : HoldF B wx (.agg #[.int .i64 k, .bool b, .bool n.neg, .string (txt n.dig), .int .i64 n.exp, .string (txt t), .slice none 0 0, .slice none 0 0]) ⟨k, b, n, t, [], []⟩ := by
 refine ⟨_, rfl, ?_⟩
 rw [Tre.HoldP]
 exact ⟨_, none, 0, rfl, ⟨none, 0, rfl, Nat.le_refl _, by omega, .inl rfl⟩, Nat.le_refl _, by omega, .inl rfl⟩
set_option maxRecDepth 100000 in
set_option maxHeartbeats 8000000 in
theorem mnull_any {w : World} {R : Nat} {s : List UInt8} {q : Nat} {o : Int} {u : Value} (hs : s.length < 100000) (hq : q ≤ s.length) (h : Rdr R s q o u w) :
   Calls Tryz.prog 44 #[rp R] w (Told R s u o w (word ⟨1, false, Num.zero, [], [], []⟩ [110, 117, 108, 108] (s.drop q))) := by
 have hR := lt_of_heap h
 have hB := World.alloc_heap_new w (.cells #[.int .i64 0, .bool false, .bool false, .string ⟨#[]⟩, .int .i64 0, .string ⟨#[]⟩, .slice none 0 0, .slice none 0 0] 29)
 have g0 := grown_alloc (World.grownBy.refl w (some R)) (.cells #[.int .i64 0, .bool false, .bool false, .string ⟨#[]⟩, .int .i64 0, .string ⟨#[]⟩, .slice none 0 0, .slice none 0 0] 29)
 have h0 : Rdr R s q o u (w.alloc (.cells #[.int .i64 0, .bool false, .bool false, .string ⟨#[]⟩, .int .i64 0, .string ⟨#[]⟩, .slice none 0 0, .slice none 0 0] 29)) := new_of h _
 have hw := mword_any (kk := 1) (bb := false) (W := [110, 117, 108, 108]) ⟨1, false, Num.zero, [], [], []⟩ hs (by decide) hq h0 (fun B wx => flat_hold 1 false Num.zero [] B wx)
 generalize hg : word ⟨1, false, Num.zero, [], [], []⟩ [110, 117, 108, 108] (s.drop q) = g at *
 have HW := Lib.hid hw
 clear hw hg h
 unfold rp txt at HW
 unfold rp
 go_enter Tryz.func44, Tryz.ntmps44
 go_wp2_with fail
 refine HW.out.mono ?_
 rintro e w1 hT
 obtain ⟨k0, b0, n0, t0, pk, lk, ck, ak, lv, cc, ek, rfl⟩ := hT.form
 have hB1 := kept_of hB hT.grown (by omega)
 have k3 := grown8 w1 w.heap.size (.int .i64 k0) (.bool b0) (.bool n0.neg) (.string (txt n0.dig)) (.int .i64 n0.exp) (.string (txt t0)) (.slice pk lk ck) (.slice ak lv cc)
 have hB2 := store8 hB1 (.int .i64 k0) (.bool b0) (.bool n0.neg) (.string (txt n0.dig)) (.int .i64 n0.exp) (.string (txt t0)) (.slice pk lk ck) (.slice ak lv cc)
 have hT2 := hT.stored g0 k3 (Nat.le_refl _) (by simp) hR
 obtain ⟨e0, e1, e2, e3, e4, e5, e6, e7⟩ := eight hB1
 obtain ⟨f0, f1, f2, f3, f4, f5, f6, f7⟩ := free8 hB1
 have HB := Lib.hid hB2
 have HT := Lib.hid hT2
 clear hB2 hT2 k3 hT
 go_wp2_with fail
 obtain ⟨d0, d1, d2, d3, d4, d5, d6, d7⟩ := eight HB.out
 refine bodyPost_ret (v := .tuple #[.agg #[.int .i64 k0, .bool b0, .bool n0.neg, .string (txt n0.dig), .int .i64 n0.exp, .string (txt t0), .slice pk lk ck, .slice ak lv cc], .int .i64 ek]) (by simp [results, Tryz.results44, go_sem, d0, d1, d2, d3, d4, d5, d6, d7]) rfl ?_
 exact HT.out
set_option maxRecDepth 100000 in
set_option maxHeartbeats 8000000 in
theorem myes_any {w : World} {R : Nat} {s : List UInt8} {q : Nat} {o : Int} {u : Value} (hs : s.length < 100000) (hq : q ≤ s.length) (h : Rdr R s q o u w) :
   Calls Tryz.prog 45 #[rp R] w (Told R s u o w (word ⟨2, true, Num.zero, [], [], []⟩ [116, 114, 117, 101] (s.drop q))) := by
 have hR := lt_of_heap h
 have hB := World.alloc_heap_new w (.cells #[.int .i64 0, .bool false, .bool false, .string ⟨#[]⟩, .int .i64 0, .string ⟨#[]⟩, .slice none 0 0, .slice none 0 0] 29)
 have g0 := grown_alloc (World.grownBy.refl w (some R)) (.cells #[.int .i64 0, .bool false, .bool false, .string ⟨#[]⟩, .int .i64 0, .string ⟨#[]⟩, .slice none 0 0, .slice none 0 0] 29)
 have h0 : Rdr R s q o u (w.alloc (.cells #[.int .i64 0, .bool false, .bool false, .string ⟨#[]⟩, .int .i64 0, .string ⟨#[]⟩, .slice none 0 0, .slice none 0 0] 29)) := new_of h _
 have hw := mword_any (kk := 2) (bb := true) (W := [116, 114, 117, 101]) ⟨2, true, Num.zero, [], [], []⟩ hs (by decide) hq h0 (fun B wx => flat_hold 2 true Num.zero [] B wx)
 generalize hg : word ⟨2, true, Num.zero, [], [], []⟩ [116, 114, 117, 101] (s.drop q) = g at *
 have HW := Lib.hid hw
 clear hw hg h
 unfold rp txt at HW
 unfold rp
 go_enter Tryz.func45, Tryz.ntmps45
 go_wp2_with fail
 refine HW.out.mono ?_
 rintro e w1 hT
 obtain ⟨k0, b0, n0, t0, pk, lk, ck, ak, lv, cc, ek, rfl⟩ := hT.form
 have hB1 := kept_of hB hT.grown (by omega)
 have k3 := grown8 w1 w.heap.size (.int .i64 k0) (.bool b0) (.bool n0.neg) (.string (txt n0.dig)) (.int .i64 n0.exp) (.string (txt t0)) (.slice pk lk ck) (.slice ak lv cc)
 have hB2 := store8 hB1 (.int .i64 k0) (.bool b0) (.bool n0.neg) (.string (txt n0.dig)) (.int .i64 n0.exp) (.string (txt t0)) (.slice pk lk ck) (.slice ak lv cc)
 have hT2 := hT.stored g0 k3 (Nat.le_refl _) (by simp) hR
 obtain ⟨e0, e1, e2, e3, e4, e5, e6, e7⟩ := eight hB1
 obtain ⟨f0, f1, f2, f3, f4, f5, f6, f7⟩ := free8 hB1
 have HB := Lib.hid hB2
 have HT := Lib.hid hT2
 clear hB2 hT2 k3 hT
 go_wp2_with fail
 obtain ⟨d0, d1, d2, d3, d4, d5, d6, d7⟩ := eight HB.out
 refine bodyPost_ret (v := .tuple #[.agg #[.int .i64 k0, .bool b0, .bool n0.neg, .string (txt n0.dig), .int .i64 n0.exp, .string (txt t0), .slice pk lk ck, .slice ak lv cc], .int .i64 ek]) (by simp [results, Tryz.results45, go_sem, d0, d1, d2, d3, d4, d5, d6, d7]) rfl ?_
 exact HT.out
set_option maxRecDepth 100000 in
set_option maxHeartbeats 8000000 in
theorem mno_any {w : World} {R : Nat} {s : List UInt8} {q : Nat} {o : Int} {u : Value} (hs : s.length < 100000) (hq : q ≤ s.length) (h : Rdr R s q o u w) :
   Calls Tryz.prog 46 #[rp R] w (Told R s u o w (word ⟨2, false, Num.zero, [], [], []⟩ [102, 97, 108, 115, 101] (s.drop q))) := by
 have hR := lt_of_heap h
 have hB := World.alloc_heap_new w (.cells #[.int .i64 0, .bool false, .bool false, .string ⟨#[]⟩, .int .i64 0, .string ⟨#[]⟩, .slice none 0 0, .slice none 0 0] 29)
 have g0 := grown_alloc (World.grownBy.refl w (some R)) (.cells #[.int .i64 0, .bool false, .bool false, .string ⟨#[]⟩, .int .i64 0, .string ⟨#[]⟩, .slice none 0 0, .slice none 0 0] 29)
 have h0 : Rdr R s q o u (w.alloc (.cells #[.int .i64 0, .bool false, .bool false, .string ⟨#[]⟩, .int .i64 0, .string ⟨#[]⟩, .slice none 0 0, .slice none 0 0] 29)) := new_of h _
 have hw := mword_any (kk := 2) (bb := false) (W := [102, 97, 108, 115, 101]) ⟨2, false, Num.zero, [], [], []⟩ hs (by decide) hq h0 (fun B wx => flat_hold 2 false Num.zero [] B wx)
 generalize hg : word ⟨2, false, Num.zero, [], [], []⟩ [102, 97, 108, 115, 101] (s.drop q) = g at *
 have HW := Lib.hid hw
 clear hw hg h
 unfold rp txt at HW
 unfold rp
 go_enter Tryz.func46, Tryz.ntmps46
 go_wp2_with fail
 refine HW.out.mono ?_
 rintro e w1 hT
 obtain ⟨k0, b0, n0, t0, pk, lk, ck, ak, lv, cc, ek, rfl⟩ := hT.form
 have hB1 := kept_of hB hT.grown (by omega)
 have k3 := grown8 w1 w.heap.size (.int .i64 k0) (.bool b0) (.bool n0.neg) (.string (txt n0.dig)) (.int .i64 n0.exp) (.string (txt t0)) (.slice pk lk ck) (.slice ak lv cc)
 have hB2 := store8 hB1 (.int .i64 k0) (.bool b0) (.bool n0.neg) (.string (txt n0.dig)) (.int .i64 n0.exp) (.string (txt t0)) (.slice pk lk ck) (.slice ak lv cc)
 have hT2 := hT.stored g0 k3 (Nat.le_refl _) (by simp) hR
 obtain ⟨e0, e1, e2, e3, e4, e5, e6, e7⟩ := eight hB1
 obtain ⟨f0, f1, f2, f3, f4, f5, f6, f7⟩ := free8 hB1
 have HB := Lib.hid hB2
 have HT := Lib.hid hT2
 clear hB2 hT2 k3 hT
 go_wp2_with fail
 obtain ⟨d0, d1, d2, d3, d4, d5, d6, d7⟩ := eight HB.out
 refine bodyPost_ret (v := .tuple #[.agg #[.int .i64 k0, .bool b0, .bool n0.neg, .string (txt n0.dig), .int .i64 n0.exp, .string (txt t0), .slice pk lk ck, .slice ak lv cc], .int .i64 ek]) (by simp [results, Tryz.results46, go_sem, d0, d1, d2, d3, d4, d5, d6, d7]) rfl ?_
 exact HT.out
end Go.Proofs.YtlfbnfphocpgeaaGreatDoor.Jdec
namespace Go.Proofs.YtlfbnfphocpgeaaGreatDoor.Utf
open Go.RowKit Kit Go.Shelf
attribute [local go_sem] Oper.semAt_some
theorem grown_of_below {w w' : World} (h : Below w.heap.size w w') : w.grownBy w' none := ⟨h.os, h.tape, h.output, h.size, fun k hk _ => h.block k hk⟩
def encs (x : Nat × Nat) : Array Value := #[.int .i64 x.1, .int .i64 x.2]
def Kept (n₀ Bn : Nat) (A B : World) : Prop := Below n₀ A B ∧ B.heap[Bn]? = A.heap[Bn]?
theorem Kept.refl (n₀ Bn : Nat) (A : World) : Kept n₀ Bn A A := ⟨Below.refl _ _, rfl⟩
theorem Kept.trans {n₀ Bn : Nat} {A B C : World} (h : Kept n₀ Bn A B) (k : Kept n₀ Bn B C) : Kept n₀ Bn A C := ⟨h.1.trans k.1, k.2.trans h.2⟩
theorem Kept.of_below {n₀ Bn : Nat} {A B : World} (h : Below A.heap.size A B) (hn : n₀ ≤ A.heap.size) (hB : Bn < A.heap.size) : Kept n₀ Bn A B := ⟨h.mono hn, h.block _ hB⟩
theorem keptK_b {n₀ Bn : Nat} {w : World} (hn : n₀ ≤ w.heap.size) (hB : Bn < w.heap.size) (W : World) (l : Nat) (o o' : Obj) (hl : w.heap.size ≤ l) (h : W.heap[l]? = some o) (h1 : o.isCells = false) (h2 : o.isWalk = false) : Kept n₀ Bn W (W.putObj l o') :=
 ⟨belowK_b hn W l o o' hl h h1 h2, (grownBy_putObj' W l o').block Bn (by have := (Array.getElem?_eq_some_iff.1 h).1; omega) (fun e => by cases e; omega)⟩
set_option maxRecDepth 100000 in
set_option maxHeartbeats 2000000 in
theorem all1_sub (n : Nat) (hn : 1 ≤ n) (l Bn n₀ : Nat) (s : ByteArray) (hs : s.size < 4611686018427387904) (J Jx : List {x // x ∈ all s.data.toList} → World → Prop)
   (W : World) (hBn : W.heap[Bn]? = some (.cells #[.string s] 9 (0, 0))) (hl : Laid W) (hg : 5 < n₀) (hW : n₀ ≤ W.heap.size) (hJ : AbidesFrom W.heap.size J)
   (hY : ∀ pre x W1, J pre W1 → pre.length < (all s.data.toList).length → YieldAt Fence.wide (n - 1) Tryz.prog l (encs x.val) W1 fun e W' =>
     (e = .returned (.bool true) ∧ J (pre ++ [x]) W' ∧ Kept n₀ Bn W1 W') ∨ (e = .returned (.bool false) ∧ Jx (pre ++ [x]) W'))
   (h0 : J [] W) :
   CallsIn Fence.wide n Tryz.prog 182 #[.func (.yield l) #[] #[], .pointer (some ⟨Bn, 0, none⟩)] W fun e W' => (∃ v, e = .returned v) ∧
     ((∃ ys, ys.map Subtype.val = all s.data.toList ∧ J ys W') ∨ (∃ pre, pre.map Subtype.val <+: all s.data.toList ∧ Jx pre W')) := by
 have hlen : s.data.toList.length = s.size := by simp
 refine callsIn_of_wp Tryz.func182 rfl trivial ?_ rfl
 simp only [Tryz.ntmps182, List.size_toArray, List.length_cons, List.length_nil, Nat.reduceAdd, Nat.reduceSub, Array.replicate_succ, Array.replicate_zero, List.push_toArray, List.append_toArray, List.nil_append, List.cons_append]
 gi_wp2
 gi_loopw [3] (fun i wr => ∃ (k : Nat) (pre : List {x // x ∈ all s.data.toList}), k ≤ s.size ∧ i = .int .i64 k ∧ all s.data.toList = pre.map Subtype.val ++ (scan k (s.data.toList.drop k)).1 ∧ Kept n₀ Bn W wr ∧ J pre wr)
   (fun i _ => s.size - (intOf i).toNat)
 case atStart =>
   exact ⟨0, [], Nat.zero_le _, rfl, rfl, Kept.refl _ _ _, h0⟩
 case round =>
   obtain ⟨k, pre, hk, rfl, hall, hbel, hJs⟩ := hrel
   have hlr := hl.below hbel.1 hg
   have hcs : wr.cell? ⟨Bn, 0, none⟩ = some (.string s) := cell_of (hbel.2.trans hBn) 0
   have hBw : Bn < wr.heap.size := lt_of_heap (hbel.2.trans hBn)
   by_cases hlt : k < s.size
   · have hks : (k : Int) < (s.size : Int) := by omega
     have hx : 0 < (s.extract k s.size).size := by simp; omega
     have hd := decode_any hx hlr
     rw [extract_rest] at hd
     rcases scan_at (l := s.data.toList) (by omega : k < s.data.toList.length) with ⟨z0, hr⟩ | ⟨z0, z1, z2, hr⟩
     · rw [hr] at hall
       gi_wp2_with (refine ⟨trivial, ?_⟩; gi_at_call 170; refine (callsIn_wide.2 hd).mono ?_; rintro e w1 ⟨rfl, b1⟩)
       refine ⟨fun _ h => (by cases h), ?_⟩
       gi_wp2
       refine bodyPost_ret (results_none rfl _ _ _) rfl ?_
       exact ⟨⟨_, rfl⟩, .inl ⟨pre, by rw [List.append_nil] at hall; exact hall.symm, hJ _ _ _ _ hJs (grown_of_below b1) (fun r e => by cases e)⟩⟩
     · rw [hr] at hall
       have hpl : pre.length < (all s.data.toList).length := by
         have := congrArg List.length hall
         simp only [List.length_append, List.length_map, List.length_cons] at this
         omega
       have hmem : (k, (one (s.data.toList.drop k)).1) ∈ all s.data.toList := by rw [hall]; simp
       have hA := Lib.hid hall
       clear hall
       gi_wp2_with (refine ⟨trivial, ?_⟩; gi_at_call 170; refine (callsIn_wide.2 hd).mono ?_; rintro e w1 ⟨rfl, b1⟩; have hJ1 : J pre w1 := hJ _ _ _ _ hJs (grown_of_below b1) (fun r e => by cases e); obtain ⟨fn, tmps, assign, body, hy, hR⟩ := hY pre ⟨(k, (one (s.data.toList.drop k)).1), hmem⟩ w1 hJ1 hpl; dsimp only [encs] at hy)
       refine hR.mono ?_
       rintro e W3 (⟨rfl, hJ3, hk3⟩ | ⟨rfl, hJx3⟩)
       · gi_wp2
         go_roundw
         case rel => exact ⟨k + (one (s.data.toList.drop k)).2, pre ++ [⟨(k, (one (s.data.toList.drop k)).1), hmem⟩], by omega, by go_num, by rw [List.map_append, List.append_assoc]; exact hA.out, hbel.trans ((Kept.of_below b1 (Nat.le_trans hW hbel.1.size) hBw).trans hk3), hJ3⟩
         case measure => simp [intOf]; omega
       · gi_wp2
         refine bodyPost_ret (results_none rfl _ _ _) rfl ?_
         exact ⟨⟨_, rfl⟩, .inr ⟨pre ++ [⟨(k, (one (s.data.toList.drop k)).1), hmem⟩], ⟨_, by rw [List.map_append, List.append_assoc]; exact hA.out.symm⟩, hJx3⟩⟩
   · obtain rfl : k = s.size := by omega
     have e0 : s.data.toList.drop s.size = [] := List.drop_eq_nil_of_le (by omega)
     rw [e0, scan_nil, List.append_nil] at hall
     gi_wp2
     go_end0
     exact ⟨⟨_, rfl⟩, .inl ⟨pre, hall.symm, hJs⟩⟩
set_option maxHeartbeats 1000000 in
theorem all_any (n : Nat) (s : ByteArray) (w : World) :
   CallsIn Fence.wide n Tryz.prog 153 #[.string s] w fun e w' => e = .returned (.func (.func 182) #[] #[.pointer (some ⟨w.heap.size, 0, none⟩)]) ∧ w.alloc (.cells #[.string s] 9) = w' := by
 refine callsIn_of_wp Tryz.func153 rfl trivial ?_ rfl
 simp only [Tryz.ntmps153, List.size_toArray, List.length_cons, List.length_nil, Nat.reduceAdd, Nat.reduceSub, Array.replicate_succ, Array.replicate_zero, List.push_toArray, List.append_toArray, List.nil_append, List.cons_append]
 gi_wp2
 go_ret
 exact ⟨rfl, rfl⟩
theorem all_stops_sub (n : Nat) (hn : 1 ≤ n) (Bn n₀ : Nat) (s : ByteArray) (hs : s.size < 4611686018427387904) (w : World) (hn₀ : n₀ ≤ w.heap.size) (hg : 5 < n₀) (hl : Laid w)
   (hc : w.heap[Bn]? = some (.cells #[.string s] 9 (0, 0))) :
   SeqStopsK Fence.wide n Tryz.prog 182 #[.pointer (some ⟨Bn, 0, none⟩)] (fun x : {x // x ∈ all s.data.toList} => encs x.val) (Kept n₀ Bn) (fun ys => ys.map Subtype.val = all s.data.toList) (fun pre => pre.map Subtype.val <+: all s.data.toList) (all s.data.toList).length w := fun l J Jx W hW hJ _ hY h0 =>
 all1_sub n hn l Bn n₀ s hs J Jx W ((hW.block _ (lt_of_heap hc)).trans hc) (hl.below hW hl.lt) hg (Nat.le_trans hn₀ hW.size) hJ hY h0
theorem scan_place : ∀ (m : Nat) (l : List UInt8), l.length = m → ∀ (p : Nat), ∀ x ∈ (scan p l).1, x.1 < p + l.length := by
 intro m
 induction m using Nat.strongRecOn with
 | ind m ih =>
   intro l hl p x hx
   rcases scan_cases l with rfl | ⟨hne, h0⟩ | ⟨d, r, hd, rfl, ho, hr⟩
   · rw [scan_nil] at hx
     simp at hx
   · rw [scan_bad hne h0] at hx
     simp at hx
   · rw [scan_enc hd r] at hx
     have hl4 := enc_len (c := d)
     rw [List.length_append] at hl ⊢
     rcases List.mem_cons.1 hx with rfl | hx
     · dsimp only
       omega
     · have := ih r.length (by omega) r rfl _ x hx
       omega
theorem all_place {l : List UInt8} {x : Nat × Nat} (h : x ∈ all l) : x.1 < l.length := by
 have := scan_place l.length l rfl 0 x h
 omega
end Go.Proofs.YtlfbnfphocpgeaaGreatDoor.Utf
