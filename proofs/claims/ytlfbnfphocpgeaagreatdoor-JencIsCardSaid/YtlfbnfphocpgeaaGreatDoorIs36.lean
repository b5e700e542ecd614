/- A part of what is_holds leans on (its texts, put together). Nothing is claimed here. -/
import Derived.Test.YtlfbnfphocpgeaaGreatDoorIs35
namespace Go.Proofs.YtlfbnfphocpgeaaGreatDoor.Jenc
open Go.RowKit Kit Txt
open Tre (Val Whole HoldU HoldV HoldP HoldF Fine Mild count sort)
open Emb (Turn Emb)
set_option maxRecDepth 100000 in
set_option maxHeartbeats 2000000 in
theorem putvalue_any {T : TypeId} {K : FuncId} {P B : Nat} {Gd : List (List UInt8) → Prop} {St : List (List UInt8) → World → Prop} (hp : Printer T K P B Gd St) : ∀ v : Val, Whole v → (∃ d, Fine d v) → ∀ (w : World) (u : Value) (ps : List (List UInt8)), HoldU B w u v → St ps w → Env B w → ps.length + 5 * count v ≤ 100000 → Gd (ps ++ pcs v) →
   Calls Tryz.prog 51 #[.iface T (.pointer (some ⟨P, 0, none⟩)), u] w fun e w' => e = .returned (.tuple #[]) ∧ St (ps ++ pcs v) w' ∧ Turn B P w w' := by
 refine Tre.ind1 fun v ih hv hf w u ps hu hs he hn hg => ?_
 by_cases h4 : v.kind < 5
 · exact putvalue_leaf hp hv hf h4 hu hs he (by omega) hg
 have hl := (Tre.whole_iff.1 hv).1
 have h56 : v.kind = 5 ∨ v.kind = 6 := by
   have := hl.2.1
   omega
 have hwk := (Tre.whole_iff.1 hv).2
 have hfk := Mild.kids v hf
 have ih' : ∀ x ∈ v.kids, ∀ (w : World) (u : Value) (ps : List (List UInt8)), HoldU B w u x → St ps w → Env B w → ps.length + 5 * count x ≤ 100000 → Gd (ps ++ pcs x) → Calls Tryz.prog 51 #[.iface T (.pointer (some ⟨P, 0, none⟩)), u] w fun e w' => e = .returned (.tuple #[]) ∧ St (ps ++ pcs x) w' ∧ Turn B P w w' := fun x hx => ih x hx (hwk x hx) (hfk x hx)
 obtain ⟨lB, lw, lP⟩ := hp.low _ _ hs
 have hk := fun (wx : World) (kx : Below w.heap.size w wx) (obj : Bool) (hob : obj = decide (v.kind = 6)) => putkids_any hp hv hf h56 ih' (HoldU.step hu (kx.mono lw)) (hp.keep _ _ _ hs kx) (he.step (kx.mono lw)) hn hg hob
 generalize pcs v = pv at *
 obtain ⟨pk, ck, a, c, rfl⟩ : ∃ pk ck a c, u = .agg #[.int .i64 v.kind, .bool v.is, .bool v.num.neg, .string (txt v.num.dig), .int .i64 v.num.exp, .string (txt v.str), .slice pk v.keys.length ck, .slice a v.kids.length c] := by
   obtain ⟨cs, hcs, hP⟩ := hu
   exact Tre.holdV_form ⟨cs, hcs, HoldP.hold v hP⟩
 generalize v.keys.length = lk at *
 generalize v.kids.length = lv at *
 generalize v.is = vi at *
 generalize v.num = vn at *
 generalize v.str = vs at *
 generalize v.kind = k at *
 have bA : Below w.heap.size w (w.alloc (.cells #[.int .i64 k, .bool vi, .bool vn.neg, .string (txt vn.dig), .int .i64 vn.exp, .string (txt vs), .slice pk lk ck, .slice a lv c] 29)) := (Below.refl _ w).alloc (Nat.le_refl _) _
 have hA := World.alloc_heap_new w (.cells #[.int .i64 k, .bool vi, .bool vn.neg, .string (txt vn.dig), .int .i64 vn.exp, .string (txt vs), .slice pk lk ck, .slice a lv c] 29)
 obtain ⟨c0, c1, c2, c3, c4, c5, c6, c7⟩ := Tre.eight hA
 have HTA := Lib.hid (Turn.of_below (b := P) bA lw)
 have HK := Lib.hid (hk _ bA)
 have t91 : (⟨#[91]⟩ : ByteArray) = txt [opener false] := rfl
 have t93 : (⟨#[93]⟩ : ByteArray) = txt [Jdec.close false] := rfl
 have t123 : (⟨#[123]⟩ : ByteArray) = txt [opener true] := rfl
 have t125 : (⟨#[125]⟩ : ByteArray) = txt [Jdec.close true] := rfl
 clear hk bA hA hu hs he hg ih ih' hwk hfk hl hp hf hv h4
 rcases h56 with rfl | rfl
 · have HK2 := Lib.hid (HK.out false (by decide))
   clear HK
   go_enter Tryz.func51, Tryz.ntmps51
   go_wp2_with fail
   refine HK2.out.mono ?_
   rintro e w2 ⟨rfl, h2, t2⟩
   go_wp2_with fail
   go_end0
   exact ⟨rfl, h2, HTA.out.trans t2⟩
 · have HK2 := Lib.hid (HK.out true (by decide))
   clear HK
   go_enter Tryz.func51, Tryz.ntmps51
   go_wp2_with fail
   refine HK2.out.mono ?_
   rintro e w2 ⟨rfl, h2, t2⟩
   go_wp2_with fail
   go_end0
   exact ⟨rfl, h2, HTA.out.trans t2⟩
set_option maxRecDepth 100000 in
set_option maxHeartbeats 2000000 in
theorem put_any {T : TypeId} {K : FuncId} {P B : Nat} {Gd : List (List UInt8) → Prop} {St : List (List UInt8) → World → Prop} (hp : Printer T K P B Gd St) {v : Val} (hr : Tre.Right v) (hm : Mild v) {w : World} {u : Value} (hu : HoldU B w u v) (hs : St [] w) (he : Env B w) (hn : 5 * count v ≤ 100000) (hg : Gd (pcs v)) :
   Calls Tryz.prog 29 #[.iface T (.pointer (some ⟨P, 0, none⟩)), u] w fun e w' => e = .returned (.int .i64 0) ∧ St (pcs v) w' ∧ Turn B P w w' := by
 obtain ⟨lB, lw, lP⟩ := hp.low _ _ hs
 have hV : ∀ wx, Below w.heap.size w wx → HoldV wx u v := fun wx kx => by
   obtain ⟨cs, hcs, hP⟩ := HoldU.step hu (kx.mono lw)
   exact ⟨cs, hcs, HoldP.hold v hP⟩
 have hR := fun (wx : World) (kx : Below w.heap.size w wx) => Tre.tright_of hm (he.step (kx.mono lw)).utf (hV wx kx)
 have hk := fun (wx : World) (kx : Below w.heap.size w wx) => putvalue_any hp v hr.2 hm wx u [] (HoldU.step hu (kx.mono lw)) (hp.keep _ _ _ hs kx) (he.step (kx.mono lw)) (by simpa using hn) (by simpa using hg)
 simp only [List.nil_append] at hk
 have HRR := Lib.hid hr
 obtain ⟨pk, ck, a, c, rfl⟩ := Tre.holdV_form (hV w (Below.refl _ _))
 generalize pcs v = pv at *
 generalize Tre.Right v = rv at *
 generalize v.keys.length = lk at *
 generalize v.kids.length = lv at *
 generalize v.is = vi at *
 generalize v.num = vn at *
 generalize v.str = vs at *
 generalize v.kind = k at *
 have bA : Below w.heap.size w (w.alloc (.cells #[.int .i64 k, .bool vi, .bool vn.neg, .string (txt vn.dig), .int .i64 vn.exp, .string (txt vs), .slice pk lk ck, .slice a lv c] 29)) := (Below.refl _ w).alloc (Nat.le_refl _) _
 have hA := World.alloc_heap_new w (.cells #[.int .i64 k, .bool vi, .bool vn.neg, .string (txt vn.dig), .int .i64 vn.exp, .string (txt vs), .slice pk lk ck, .slice a lv c] 29)
 obtain ⟨c0, c1, c2, c3, c4, c5, c6, c7⟩ := Tre.eight hA
 have HR := Lib.hid (hR _ bA)
 have HK := Lib.hid hk
 have HA := Lib.hid hA
 have HBA := Lib.hid bA
 clear hk bA hA hR hV hu hs he hg hp hm hr
 go_enter Tryz.func29, Tryz.ntmps29
 go_wp2_with fail
 refine HR.out.mono ?_
 rintro e w1 ⟨⟨r, rfl, hr⟩, k1⟩
 obtain rfl : r = true := hr.2 HRR.out
 have b1 := HBA.out.trans (k1.mono HBA.out.size)
 have hA1 := (k1.block _ (lt_of_heap HA.out)).trans HA.out
 clear c0 c1 c2 c3 c4 c5 c6 c7 hr
 obtain ⟨c0, c1, c2, c3, c4, c5, c6, c7⟩ := Tre.eight hA1
 have HK1 := Lib.hid (HK.out _ b1)
 have HT1 := Lib.hid (Turn.of_below (b := P) b1 lw)
 clear b1 k1 hA1
 go_wp2_with fail
 refine HK1.out.mono ?_
 rintro e w2 ⟨rfl, h2, t2⟩
 go_wp2_with fail
 go_ret
 exact ⟨rfl, h2, HT1.out.trans t2⟩
theorem prt_ne (wide : Bool) (d : Nat) {v : Val} (h : Whole v) : prt wide d v ≠ [] := by
 obtain ⟨k, i, n, s, ks, vs⟩ := v
 rw [Whole] at h
 rw [prt]
 split
 · simp
 split
 · cases i <;> simp
 split
 · exact (num_bytes h.1.2.2.2.2.2.2.2.1).1
 split
 · simp [Quo.print]
 · simp
set_option maxRecDepth 100000 in
set_option maxHeartbeats 2000000 in
theorem print_any {v : Val} (hr : Tre.Right v) (hm : Mild v) (hn : 5 * count v ≤ 100000) {w : World} {u : Value} (hu : HoldV w u v) (hl : Utf.Laid w) (hpw : Num.Pow w) :
   Calls Tryz.prog 16 #[u] w fun e w' => e = .returned (.tuple #[.string (txt (prt false 0 v)), .int .i64 0]) ∧ Below w.heap.size w w' := by
 have hne := prt_ne false 0 hr.2
 have hout : (pcs v).flatten = prt false 0 v := narrow_val v 0
 obtain ⟨pk, ck, a, c, rfl⟩ := Tre.holdV_form hu
 generalize v.keys.length = lk at *
 generalize v.kids.length = lv at *
 generalize v.is = vi at *
 generalize v.num = vn at *
 generalize v.str = vs at *
 generalize v.kind = k at *
 obtain ⟨w1, hw1⟩ : ∃ w1, w.alloc (.cells #[.int .i64 k, .bool vi, .bool vn.neg, .string (txt vn.dig), .int .i64 vn.exp, .string (txt vs), .slice pk lk ck, .slice a lv c] 29) = w1 := ⟨_, rfl⟩
 have hA := World.alloc_heap_new w (.cells #[.int .i64 k, .bool vi, .bool vn.neg, .string (txt vn.dig), .int .i64 vn.exp, .string (txt vs), .slice pk lk ck, .slice a lv c] 29)
 have b1 : Below w.heap.size w w1 := by rw [← hw1]; exact (Below.refl _ w).alloc (Nat.le_refl _) _
 have hz1 : w1.heap.size = w.heap.size + 1 := by rw [← hw1]; simp
 rw [hw1] at hA
 obtain ⟨w2, hw2⟩ : ∃ w2, w1.alloc (.cells #[.pointer none, .slice none 0 0] 64) = w2 := ⟨_, rfl⟩
 have b2 : Below w1.heap.size w1 w2 := by rw [← hw2]; exact (Below.refl _ w1).alloc (Nat.le_refl _) _
 have hE : Emb 64 w1.heap.size w1.heap.size [] [] w2 := by
   rw [← hw2]
   exact Emb.Emb.new w1 []
 have hA2 := (b2.block _ (lt_of_heap hA)).trans hA
 have b12 := b1.trans (b2.mono b1.size)
 have henv : Env w1.heap.size w2 := (Env.of (hl.below b1 hl.lt) (hpw.below b1)).step b2
 have hu2 : HoldU w1.heap.size w2 (.agg #[.int .i64 k, .bool vi, .bool vn.neg, .string (txt vn.dig), .int .i64 vn.exp, .string (txt vs), .slice pk lk ck, .slice a lv c]) v := HoldU.step (Tre.HoldU.of (hu.below b1)) b2
 have hput := put_any (narrow_printer w1.heap.size w1.heap.size) hr hm hu2 ⟨hE, by simp⟩ henv hn trivial
 have hw12 : w.alloc (.cells #[.int .i64 k, .bool vi, .bool vn.neg, .string (txt vn.dig), .int .i64 vn.exp, .string (txt vs), .slice pk lk ck, .slice a lv c] 29) = w1 ∧ w1.alloc (.cells #[.pointer none, .slice none 0 0] 64) = w2 := ⟨hw1, hw2⟩
 have HW := Lib.hid hw12
 have HPUT := Lib.hid hput
 have HA2 := Lib.hid hA2
 have HB := Lib.hid b12
 have HB1 := Lib.hid b1
 have HNE := Lib.hid hne
 have HOUT := Lib.hid hout
 clear hw1 hw2 hw12 hput hA hA2 b1 b2 b12 hE henv hu2 hu hl hpw hr hm hne hout
 have hmk : ∀ (x : Value) (wx : World), (Instr.makeInterface 66 x).run Tryz.prog wx = .ok (.iface 66 x) wx := fun x wx => run_makeInterface wx _ x (by kernel_rfl)
 go_enter Tryz.func16, Tryz.ntmps16
 go_upto_region 2 with fail
 rw [HW.out.1, HW.out.2]
 have e1 : w.heap.size + 1 = w1.heap.size := hz1.symm
 rw [e1]
 clear e1 hz1
 obtain ⟨c0, c1, c2, c3, c4, c5, c6, c7⟩ := Tre.eight HA2.out
 go_wp2_with fail
 refine HPUT.out.mono ?_
 rintro e w3 ⟨rfl, h3, t3⟩
 have h3e := h3.1
 have h3l := h3.1.lt
 have HX := Lib.hid (Turn.trans (.of_below (w := w1) (w' := w2) (by rw [← HW.out.2]; exact (Below.refl _ w1).alloc (Nat.le_refl _) _) (Nat.le_refl _)) t3)
 clear h3 t3
 have HB3 := Lib.hid (HB1.out.trans ((HX.out.1).mono HB1.out.size))
 go_wp2_with fail
 refine (Emb.string_any h3e (by rw [HOUT.out]; exact HNE.out)).mono ?_
 rintro e w4 ⟨rfl, k4⟩
 have HB4 := Lib.hid (HB3.out.trans (k4.mono HB1.out.size))
 clear k4
 go_wp2_with fail
 go_ret2
 exact ⟨by rw [HOUT.out]; rfl, HB4.out⟩
set_option maxRecDepth 100000 in
set_option maxHeartbeats 2000000 in
theorem canon_any {v : Val} (hr : Tre.Right v) (hm : Mild v) (hn : 5 * count v ≤ 100000) {w : World} {u : Value} (hu : HoldV w u v) (hl : Utf.Laid w) (hpw : Num.Pow w) :
   Calls Tryz.prog 17 #[u] w fun e w' => e = .returned (.tuple #[.string (txt (prt false 0 (sort v))), .int .i64 0]) ∧ Below w.heap.size w w' := by
 have hR := fun (wx : World) (kx : Below w.heap.size w wx) => Tre.tright_of hm (hl.below kx hl.lt) (hu.below kx)
 have hS := fun (wx : World) (kx : Below w.heap.size w wx) => Tre.tsort_of (hl.below kx hl.lt) hm (by omega) (hu.below kx)
 have hms : Mild (sort v) := by
   obtain ⟨d, hd⟩ := hm
   exact ⟨d, Tre.sort_fine v d hr.2 hd⟩
 have hP := fun (wx : World) (y : Value) (kx : Below w.heap.size w wx) (hy : HoldV wx y (sort v)) => print_any (Tre.sort_right hr) hms (by rw [Tre.sort_count v hr.2]; exact hn) hy (hl.below kx hl.lt) (hpw.below kx)
 have HRR := Lib.hid hr
 obtain ⟨pk, ck, a, c, rfl⟩ := Tre.holdV_form hu
 generalize prt false 0 (sort v) = out at *
 generalize sort v = sv at *
 generalize Tre.Right v = rv at *
 generalize v.keys.length = lk at *
 generalize v.kids.length = lv at *
 generalize v.is = vi at *
 generalize v.num = vn at *
 generalize v.str = vs at *
 generalize v.kind = k at *
 have bA : Below w.heap.size w (w.alloc (.cells #[.int .i64 k, .bool vi, .bool vn.neg, .string (txt vn.dig), .int .i64 vn.exp, .string (txt vs), .slice pk lk ck, .slice a lv c] 29)) := (Below.refl _ w).alloc (Nat.le_refl _) _
 have hA := World.alloc_heap_new w (.cells #[.int .i64 k, .bool vi, .bool vn.neg, .string (txt vn.dig), .int .i64 vn.exp, .string (txt vs), .slice pk lk ck, .slice a lv c] 29)
 obtain ⟨c0, c1, c2, c3, c4, c5, c6, c7⟩ := Tre.eight hA
 have HR := Lib.hid (hR _ bA)
 have HS := Lib.hid hS
 have HP := Lib.hid hP
 have HA := Lib.hid hA
 have HBA := Lib.hid bA
 clear hP hS bA hA hR hu hl hpw hm hms hr
 go_enter Tryz.func17, Tryz.ntmps17
 go_wp2_with fail
 refine HR.out.mono ?_
 rintro e w1 ⟨⟨r, rfl, hr⟩, k1⟩
 obtain rfl : r = true := hr.2 HRR.out
 have b1 := HBA.out.trans (k1.mono HBA.out.size)
 have hA1 := (k1.block _ (lt_of_heap HA.out)).trans HA.out
 clear c0 c1 c2 c3 c4 c5 c6 c7 hr
 obtain ⟨c0, c1, c2, c3, c4, c5, c6, c7⟩ := Tre.eight hA1
 have HS1 := Lib.hid (HS.out _ b1)
 have HB1 := Lib.hid b1
 clear b1 k1 hA1
 go_wp2_with fail
 refine HS1.out.mono ?_
 rintro e w2 ⟨⟨y, rfl, hy, -⟩, k2⟩
 have b2 := HB1.out.trans (k2.mono HB1.out.size)
 have HY := Lib.hid (HP.out _ y b2 (hy HRR.out))
 have HB2 := Lib.hid b2
 clear hy b2 k2
 go_wp2_with fail
 refine HY.out.mono ?_
 rintro e w3 ⟨rfl, k3⟩
 have HB3 := Lib.hid (HB2.out.trans (k3.mono HB2.out.size))
 clear k3
 go_wp2_with fail
 go_ret2
 exact ⟨rfl, HB3.out⟩
end Go.Proofs.YtlfbnfphocpgeaaGreatDoor.Jenc
namespace Go.Proofs.YtlfbnfphocpgeaaGreatDoor.Jenc
open Go.RowKit Kit Txt
open Tre (Val Whole HoldV HoldF Hold Holds Fine Mild count sort zeroV)
open Jdec (parse ParseTold jparse_all parse_good Ok eight store8 grown8 free8)
def ValueTold (s : List UInt8) (w : World) (e : Ending) (w' : World) : Prop := Below w.heap.size w w' ∧ match parse s with
 | .ok v _ => ∃ y, e = .returned (.tuple #[y, .int .i64 0]) ∧ HoldF w.heap.size w' y v
 | .no _ n => e = .returned (.tuple #[zeroV, .int .i64 n])
theorem holdF_set8 {S B g : Nat} {W : World} {u : Value} {v : Val} (h : HoldF S W u v) (hg : g < S) (hB : B ≤ S) (a0 a1 a2 a3 a4 a5 a6 a7 : Value) :
   HoldF B ((((((((W.setCell ⟨g, 0, none⟩ a0).setCell ⟨g, 1, none⟩ a1).setCell ⟨g, 2, none⟩ a2).setCell ⟨g, 3, none⟩ a3).setCell ⟨g, 4, none⟩ a4).setCell ⟨g, 5, none⟩ a5).setCell ⟨g, 6, none⟩ a6).setCell ⟨g, 7, none⟩ a7) u v := by
 have k := grown8 W g a0 a1 a2 a3 a4 a5 a6 a7
 obtain ⟨cs, hu, hp⟩ := h
 exact ⟨cs, hu, Tre.HoldP.mono (fun q hq _ => Nat.le_trans hB hq) v (Tre.HoldP.keep k.size (fun j hj hlt => k.block j hlt (fun e => by cases e; have : S ≤ g := hj; omega)) v hp)⟩
theorem told_tell {s : List UInt8} {w w1 : World} {u : Value} {p ek : Int} (h : ParseTold s w (.returned (.tuple #[u, .int .i64 p, .int .i64 ek])) w1) : (∃ v r, parse s = .ok v r ∧ ek = 0 ∧ HoldF w.heap.size w1 u v) ∨ (∃ r j, parse s = .no r j ∧ ek = (j : Nat) ∧ u = zeroV) := by
 obtain ⟨-, h⟩ := h
 cases hp : parse s with
 | ok v r =>
   rw [hp] at h
   obtain ⟨y, hy, hh⟩ := h
   simp only [Ending.returned.injEq, Value.tuple.injEq, Array.mk.injEq, List.cons.injEq, Value.int.injEq, true_and, and_true] at hy
   exact .inl ⟨v, r, rfl, hy.2.2, by rw [hy.1]; exact hh⟩
 | no r j =>
   rw [hp] at h
   simp only [Ending.returned.injEq, Value.tuple.injEq, Array.mk.injEq, List.cons.injEq, Value.int.injEq, true_and, and_true] at h
   exact .inr ⟨r, j, rfl, h.2.2, h.1⟩
theorem ValueTold.of {s : List UInt8} {w w' : World} {u : Value} {ek : Int} (hb : Below w.heap.size w w') (h : (∃ v r, parse s = .ok v r ∧ ek = 0 ∧ HoldF w.heap.size w' u v) ∨ (∃ r j, parse s = .no r j ∧ ek = (j : Nat) ∧ u = zeroV)) : ValueTold s w (.returned (.tuple #[u, .int .i64 ek])) w' := by
 refine ⟨hb, ?_⟩
 rcases h with ⟨v, r, hp, h0, hh⟩ | ⟨r, j, hp, h0, hu⟩
 · rw [hp]
   exact ⟨u, by rw [h0], hh⟩
 · rw [hp, h0, hu]
set_option maxRecDepth 100000 in
set_option maxHeartbeats 2000000 in
theorem jvalue_any {w : World} {s : List UInt8} (hs : s.length < 100000) (ho : Ok w) : Calls Tryz.prog 15 #[.string (txt s)] w (ValueTold s w) := by
 have hz := txt_size s
 have hA := World.alloc_heap_new w (.cells #[.int .i64 0, .bool false, .bool false, .string ⟨#[]⟩, .int .i64 0, .string ⟨#[]⟩, .slice none 0 0, .slice none 0 0] 29)
 have bA : Below w.heap.size w (w.alloc (.cells #[.int .i64 0, .bool false, .bool false, .string ⟨#[]⟩, .int .i64 0, .string ⟨#[]⟩, .slice none 0 0, .slice none 0 0] 29)) := (Below.refl _ w).alloc (Nat.le_refl _) _
 have hlw : w.heap.size < (w.alloc (.cells #[.int .i64 0, .bool false, .bool false, .string ⟨#[]⟩, .int .i64 0, .string ⟨#[]⟩, .slice none 0 0, .slice none 0 0] 29)).heap.size := by simp
 obtain ⟨WA, hWA⟩ : ∃ WA, w.alloc (.cells #[.int .i64 0, .bool false, .bool false, .string ⟨#[]⟩, .int .i64 0, .string ⟨#[]⟩, .slice none 0 0, .slice none 0 0] 29) = WA := ⟨_, rfl⟩
 rw [hWA] at hA bA hlw
 have HP := Lib.hid (jparse_all (w := WA) hs (ho.below bA))
 have HWA := Lib.hid hWA
 have HA := Lib.hid hA
 have HBA := Lib.hid bA
 clear hWA hA bA ho
 go_enter Tryz.func15, Tryz.ntmps15
 go_wp2_with fail
 rw [HWA.out]
 refine HP.out.mono ?_
 rintro e w1 hT
 obtain ⟨k, b, n, t, pk, lk, ck, a, lv, c, p, ek, rfl⟩ := hT.form
 have hT1 : Below WA.heap.size WA w1 := hT.1
 have hN := World.alloc_heap_new w1 (.cells #[.int .i64 k, .bool b, .bool n.neg, .string (txt n.dig), .int .i64 n.exp, .string (txt t), .slice pk lk ck, .slice a lv c] 29)
 obtain ⟨W1, hW1⟩ : ∃ W1, w1.alloc (.cells #[.int .i64 k, .bool b, .bool n.neg, .string (txt n.dig), .int .i64 n.exp, .string (txt t), .slice pk lk ck, .slice a lv c] 29) = W1 := ⟨_, rfl⟩
 have k11 : Below w1.heap.size w1 W1 := by rw [← hW1]; exact (Below.refl _ w1).alloc (Nat.le_refl _) _
 rw [hW1] at hN
 have hgot := ((hT1.trans (k11.mono hT1.size)).block _ (lt_of_heap HA.out)).trans HA.out
 have hbel := HBA.out.trans ((hT1.trans (k11.mono hT1.size)).mono HBA.out.size)
 have hne : ¬ w1.heap.size = w.heap.size := by have := hT1.size; omega
 have hne' : ¬ w.heap.size = w1.heap.size := by have := hT1.size; omega
 obtain ⟨u0, u1, u2, u3, u4, u5, u6, u7⟩ := eight hN
 have hlM := lt_of_heap hN
 have hlG := lt_of_heap hgot
 have HW1 := Lib.hid hW1
 have HC := Lib.hid (told_tell hT)
 have HK := Lib.hid k11
 clear hT hT1 k11 hW1 hN
 go_upto_region 2 with fail
 rw [HW1.out]
 clear HW1
 have h9 := store8 hgot (.int .i64 k) (.bool b) (.bool n.neg) (.string (txt n.dig)) (.int .i64 n.exp) (.string (txt t)) (.slice pk lk ck) (.slice a lv c)
 have g9 := grown8 W1 w.heap.size (.int .i64 k) (.bool b) (.bool n.neg) (.string (txt n.dig)) (.int .i64 n.exp) (.string (txt t)) (.slice pk lk ck) (.slice a lv c)
 have b9 := hbel.grown g9 hbel.size (fun k e => by cases e; exact Nat.le_refl _)
 have HF := Lib.hid fun (v : Val) (h : HoldF WA.heap.size w1 (.agg #[.int .i64 k, .bool b, .bool n.neg, .string (txt n.dig), .int .i64 n.exp, .string (txt t), .slice pk lk ck, .slice a lv c]) v) => holdF_set8 (Tre.HoldF.below h HK.out) hlw (show w.heap.size ≤ WA.heap.size by omega) (.int .i64 k) (.bool b) (.bool n.neg) (.string (txt n.dig)) (.int .i64 n.exp) (.string (txt t)) (.slice pk lk ck) (.slice a lv c)
 obtain ⟨z0, z1, z2, z3, z4, z5, z6, z7⟩ := eight h9
 obtain ⟨y0, y1, y2, y3, y4, y5, y6, y7⟩ := eight hgot
 have qf := free_of hgot
 have HB9 := Lib.hid b9
 clear h9 b9 g9 hgot hbel
 go_wp2_with fail
 refine bodyPost_ret (v := .tuple #[.agg #[.int .i64 k, .bool b, .bool n.neg, .string (txt n.dig), .int .i64 n.exp, .string (txt t), .slice pk lk ck, .slice a lv c], .int .i64 ek]) (by simp [results, Tryz.results15, go_sem, z0, z1, z2, z3, z4, z5, z6, z7]) rfl (ValueTold.of HB9.out ?_)
 rcases HC.out with ⟨v, r, h1, h2, h3⟩ | h
 · exact .inl ⟨v, r, h1, h2, HF.out v h3⟩
 · exact .inr h
theorem ValueTold.good {s r : List UInt8} {v : Val} (hp : parse s = .ok v r) {w : World} {e : Ending} {w' : World} (h : ValueTold s w e w') : (∃ (pk ak : Option Addr) (ck cc : Nat), e = .returned (.tuple #[.agg #[.int .i64 v.kind, .bool v.is, .bool v.num.neg, .string (txt v.num.dig), .int .i64 v.num.exp, .string (txt v.str), .slice pk v.keys.length ck, .slice ak v.kids.length cc], .int .i64 0]) ∧ HoldV w' (.agg #[.int .i64 v.kind, .bool v.is, .bool v.num.neg, .string (txt v.num.dig), .int .i64 v.num.exp, .string (txt v.str), .slice pk v.keys.length ck, .slice ak v.kids.length cc]) v) ∧ Below w.heap.size w w' := by
 obtain ⟨k, h⟩ := h
 rw [hp] at h
 obtain ⟨y, rfl, hy⟩ := h
 obtain ⟨pk, ck, a, c, rfl⟩ := Jdec.holdF_form hy
 exact ⟨⟨_, _, _, _, rfl, hy.hold⟩, k⟩
theorem ValueTold.bad {s r : List UInt8} {n : Nat} (hp : parse s = .no r n) {w : World} {e : Ending} {w' : World} (h : ValueTold s w e w') : e = .returned (.tuple #[zeroV, .int .i64 n]) ∧ Below w.heap.size w w' := by
 obtain ⟨k, h⟩ := h
 rw [hp] at h
 exact ⟨h, k⟩
def isB (s : List UInt8) : Bool := match parse s with
 | .ok v _ => decide (s = prt false 0 (sort v))
 | .no _ _ => false
theorem txt_beq (a b : List UInt8) : ((txt a).toList == (txt b).toList) = decide (a = b) := by
 by_cases h : a = b
 · subst h; simp
 · rw [txt_ne h]; simp [h]
set_option maxRecDepth 100000 in
set_option maxHeartbeats 2000000 in
theorem jis_any {w : World} {s : List UInt8} (hs : s.length < 100000) (ho : Ok w) (hpw : Num.Pow w) (hm : ∀ v r, parse s = .ok v r → Mild v ∧ 5 * count v ≤ 100000) : Calls Tryz.prog 13 #[.string (txt s)] w fun e w' => e = .returned (.bool (isB s)) ∧ Below w.heap.size w w' := by
 have hz := txt_size s
 have HV := Lib.hid (jvalue_any hs ho)
 have hgd := parse_good s
 have hib : isB s = match parse s with
   | .ok v _ => decide (s = prt false 0 (sort v))
   | .no _ _ => false := rfl
 cases hp : parse s with
 | no r j =>
   rw [hp] at hgd hib
   dsimp only at hib
   have hj : j ≠ 0 := hgd.2
   have hj2 : (((j : Nat) : Int) != 0) = true := by simpa using hj
   have HPP := Lib.hid hp
   rw [hib]
   clear hp hgd hib hj
   go_enter Tryz.func13, Tryz.ntmps13
   go_wp2_with fail
   refine HV.out.mono ?_
   rintro e w1 hT
   obtain ⟨rfl, k1⟩ := ValueTold.bad HPP.out hT
   unfold zeroV
   have HB := Lib.hid (k1.alloc k1.size (.cells #[.int .i64 0, .bool false, .bool false, .string ⟨#[]⟩, .int .i64 0, .string ⟨#[]⟩, .slice none 0 0, .slice none 0 0] 29))
   clear hT k1
   go_wp2_with fail
   go_ret
   exact ⟨rfl, HB.out⟩
 | ok v r =>
   rw [hp] at hgd hib
   dsimp only at hib
   obtain ⟨m1, m2⟩ := hm v r hp
   have hr : Tre.Right v := hgd.2.2
   have HC := Lib.hid fun (wx : World) (hb : Below w.heap.size w wx) (u : Value) (h : HoldV wx u v) => canon_any hr m1 m2 h (ho.below hb).utf (hpw.below hb)
   have hq := txt_beq s (prt false 0 (sort v))
   rw [← hib] at hq
   generalize prt false 0 (sort v) = pv at *
   generalize isB s = bb at *
   have HPP := Lib.hid hp
   clear hp hgd hib m1 m2 hm hr
   go_enter Tryz.func13, Tryz.ntmps13
   go_wp2_with fail
   refine HV.out.mono ?_
   rintro e w1 hT
   obtain ⟨⟨pk, ak, ck, cc, rfl, hh⟩, k1⟩ := ValueTold.good HPP.out hT
   generalize v.keys.length = lk at *
   generalize v.kids.length = lv at *
   generalize v.kind = k at *
   generalize v.is = b at *
   generalize v.num = n at *
   generalize v.str = t at *
   have hN := World.alloc_heap_new w1 (.cells #[.int .i64 k, .bool b, .bool n.neg, .string (txt n.dig), .int .i64 n.exp, .string (txt t), .slice pk lk ck, .slice ak lv cc] 29)
   have b1 := k1.alloc k1.size (.cells #[.int .i64 k, .bool b, .bool n.neg, .string (txt n.dig), .int .i64 n.exp, .string (txt t), .slice pk lk ck, .slice ak lv cc] 29)
   have hh1 : HoldV (w1.alloc (.cells #[.int .i64 k, .bool b, .bool n.neg, .string (txt n.dig), .int .i64 n.exp, .string (txt t), .slice pk lk ck, .slice ak lv cc] 29)) (.agg #[.int .i64 k, .bool b, .bool n.neg, .string (txt n.dig), .int .i64 n.exp, .string (txt t), .slice pk lk ck, .slice ak lv cc]) v := hh.below ((Below.refl _ w1).alloc (Nat.le_refl _) _)
   have HCC := Lib.hid (HC.out _ b1 _ hh1)
   obtain ⟨u0, u1, u2, u3, u4, u5, u6, u7⟩ := eight hN
   have HB1 := Lib.hid b1
   clear hT k1 hh hh1 hN b1
   go_wp2_with fail
   refine HCC.out.mono ?_
   rintro e w2 ⟨rfl, k2⟩
   have b2 := HB1.out.trans (k2.mono HB1.out.size)
   clear u0 u1 u2 u3 u4 u5 u6 u7 k2
   go_wp2_with fail
   go_ret
   exact ⟨rfl, b2⟩
end Go.Proofs.YtlfbnfphocpgeaaGreatDoor.Jenc
namespace Go.Proofs.YtlfbnfphocpgeaaGreatDoor.Tre
open Go.RowKit Kit Txt
open Num (Dec zero)
def vList : Val := ⟨5, false, zero, [], [], []⟩
theorem bad_one {c : Nat} (hc : c < 128) : Utf.bad [UInt8.ofNat c] = none := by
 have h := Utf.scan_one (c := c) (by unfold Utf.Scalar; omega)
 have e : Utf.enc c = [UInt8.ofNat c] := by
   unfold Utf.enc Utf.encN
   rw [if_pos hc]
   rfl
 rw [e] at h
 unfold Utf.bad
 rw [h]
theorem bad_none : Utf.bad [] = none := by unfold Utf.bad; rw [Utf.scan_nil]
theorem right_zero : Num.Right zero := by decide
end Go.Proofs.YtlfbnfphocpgeaaGreatDoor.Tre
namespace Go.Proofs.YtlfbnfphocpgeaaGreatDoor.Jenc
open Go.RowKit Kit Txt
open Tre (Val Whole HoldV Hold Holds At8 Fine Fines Mild count sort)
def vN : Val := ⟨3, false, ⟨false, [49], 0⟩, [], [], []⟩
def vEx : Val := ⟨6, false, Num.zero, [], [[98], [97]], [vN, Tre.vList]⟩
def exP : List UInt8 := [123, 34, 98, 34, 58, 49, 44, 34, 97, 34, 58, 91, 93, 125]
def exC : List UInt8 := [123, 34, 97, 34, 58, 91, 93, 44, 34, 98, 34, 58, 49, 125]
theorem ex_print : prt false 0 vEx = exP := by decide +kernel
theorem ex_canon : prt false 0 (sort vEx) = exC := by decide +kernel
theorem mild_ex : Mild vEx := by
 refine ⟨1, ?_⟩
 unfold vEx vN Tre.vList
 rw [Fine]
 refine ⟨by decide, by simp, by simp [Num.zero], by simp, ?_⟩
 rw [Fines, Fines, Fines]
 refine ⟨?_, ?_, trivial⟩
 · rw [Fine]
   exact ⟨by decide, by simp, by simp, by simp, by rw [Fines]; trivial⟩
 · rw [Fine]
   exact ⟨by decide, by simp, by simp [Num.zero], by simp, by rw [Fines]; trivial⟩
theorem whole_flat {v : Val} (h : Tre.Own v) (hk : v.kids = []) : Whole v := by
 rw [Tre.whole_iff]
 exact ⟨h, by rw [hk]; intro x hx; exact absurd hx List.not_mem_nil⟩
theorem right_ex : Tre.Right vEx := by
 refine ⟨by decide, ?_⟩
 rw [Tre.whole_iff]
 refine ⟨?_, ?_⟩
 · unfold Tre.Own
   refine ⟨by decide, by decide, fun _ => rfl, fun _ => rfl, fun _ => rfl, fun h => absurd h (by decide), fun h => absurd rfl h, Tre.right_zero, Tre.bad_none, fun _ => rfl, fun k hk => ?_, by decide⟩
   rcases List.mem_cons.1 hk with rfl | hk
   · exact Tre.bad_one (c := 98) (by decide)
   · rw [List.mem_singleton.1 hk]
     exact Tre.bad_one (c := 97) (by decide)
 · intro x hx
   rcases List.mem_cons.1 hx with e | hx
   · rw [e]
     refine whole_flat ?_ rfl
     unfold Tre.Own
     exact ⟨by decide, by decide, fun _ => rfl, fun h => absurd rfl h, fun _ => rfl, fun _ => rfl, fun _ => rfl, by decide, Tre.bad_none, fun h => absurd h (by decide), fun k hk => absurd hk List.not_mem_nil, List.nodup_nil⟩
   · rw [List.mem_singleton.1 hx]
     refine whole_flat ?_ rfl
     unfold Tre.Own
     exact ⟨by decide, by decide, fun _ => rfl, fun _ => rfl, fun _ => rfl, fun h => absurd h (by decide), fun _ => rfl, Tre.right_zero, Tre.bad_none, fun h => absurd h (by decide), fun k hk => absurd hk List.not_mem_nil, List.nodup_nil⟩
theorem hold_ex {W : World} {g1 g2 : Nat} {f1 f2 : Nat × Nat} (h1 : W.heap[g1]? = some (.cells #[.string ⟨#[98]⟩, .string ⟨#[97]⟩] 9 f1)) (h2 : W.heap[g2]? = some (.cells #[.int .i64 3, .bool false, .bool false, .string ⟨#[49]⟩, .int .i64 0, .string ⟨#[]⟩, .slice none 0 0, .slice none 0 0, .int .i64 5, .bool false, .bool false, .string ⟨#[]⟩, .int .i64 0, .string ⟨#[]⟩, .slice none 0 0, .slice none 0 0] 29 f2)) :
   HoldV W (.agg #[.int .i64 6, .bool false, .bool false, .string ⟨#[]⟩, .int .i64 0, .string ⟨#[]⟩, .slice (some ⟨g1, 0, none⟩) 2 2, .slice (some ⟨g2, 0, none⟩) 2 2]) vEx := by
 refine ⟨_, rfl, ?_⟩
 unfold vEx
 rw [Hold]
 refine ⟨_, some ⟨g2, 0, none⟩, 2, rfl, ⟨some ⟨g1, 0, none⟩, 2, rfl, Nat.le_refl _, by omega, .inr ⟨g1, 0, rfl, lt_of_heap h1, fun i l hi => ?_⟩⟩, Nat.le_refl _, by omega, .inr ⟨g2, 0, rfl, lt_of_heap h2, ?_⟩⟩
 · match i with
   | 0 =>
     simp at hi
     subst hi
     exact cell_of h1 0
   | 1 =>
     simp at hi
     subst hi
     exact cell_of h1 1
   | i + 2 => simp at hi
 · rw [Holds, Holds, Holds]
   refine ⟨⟨[.int .i64 3, .bool false, .bool false, .string ⟨#[49]⟩, .int .i64 0, .string ⟨#[]⟩, .slice none 0 0, .slice none 0 0], ⟨rfl, fun j hj => ?_⟩, ?_⟩, ⟨[.int .i64 5, .bool false, .bool false, .string ⟨#[]⟩, .int .i64 0, .string ⟨#[]⟩, .slice none 0 0, .slice none 0 0], ⟨rfl, fun j hj => ?_⟩, ?_⟩, trivial⟩
   · rw [cell_of h2]
     match j, hj with
     | 0, _ | 1, _ | 2, _ | 3, _ | 4, _ | 5, _ | 6, _ | 7, _ => rfl
   · unfold vN
     rw [Hold]
     exact ⟨_, none, 0, rfl, ⟨none, 0, rfl, Nat.le_refl _, by omega, .inl rfl⟩, Nat.le_refl _, by omega, .inl rfl⟩
   · rw [cell_of h2]
     match j, hj with
     | 0, _ | 1, _ | 2, _ | 3, _ | 4, _ | 5, _ | 6, _ | 7, _ => rfl
   · unfold Tre.vList
     rw [Hold]
     exact ⟨_, none, 0, rfl, ⟨none, 0, rfl, Nat.le_refl _, by omega, .inl rfl⟩, Nat.le_refl _, by omega, .inl rfl⟩
set_option maxRecDepth 100000 in
set_option maxHeartbeats 4000000 in
theorem wakes_any {w : World} (hl : Utf.Laid w) (hp : Num.Pow w) : Calls Tryz.prog 12 #[] w fun e w' => e = .returned (.bool true) ∧ Below w.heap.size w w' := by
 obtain ⟨W, hW⟩ : ∃ W, (((w.alloc (.cells #[.string ⟨#[98]⟩, .string ⟨#[97]⟩] 9)).alloc (.cells #[.int .i64 3, .bool false, .bool false, .string ⟨#[49]⟩, .int .i64 0, .string ⟨#[]⟩, .slice none 0 0, .slice none 0 0, .int .i64 5, .bool false, .bool false, .string ⟨#[]⟩, .int .i64 0, .string ⟨#[]⟩, .slice none 0 0, .slice none 0 0] 29)).alloc (.cells #[.int .i64 6, .bool false, .bool false, .string ⟨#[]⟩, .int .i64 0, .string ⟨#[]⟩, .slice (some ⟨w.heap.size, 0, none⟩) 2 2, .slice (some ⟨w.heap.size + 1, 0, none⟩) 2 2] 29)) = W := ⟨_, rfl⟩
 have bW : Below w.heap.size w W := by rw [← hW]; exact (((Below.refl _ w).alloc (by simp; try omega) _).alloc (by simp; try omega) _).alloc (by simp; try omega) _
 have q1 : W.heap[w.heap.size]? = some (.cells #[.string ⟨#[98]⟩, .string ⟨#[97]⟩] 9 (0, 0)) := by
   rw [← hW]
   exact new_of (new_of (World.alloc_heap_new w _) _) _
 have q2 : W.heap[w.heap.size + 1]? = some (.cells #[.int .i64 3, .bool false, .bool false, .string ⟨#[49]⟩, .int .i64 0, .string ⟨#[]⟩, .slice none 0 0, .slice none 0 0, .int .i64 5, .bool false, .bool false, .string ⟨#[]⟩, .int .i64 0, .string ⟨#[]⟩, .slice none 0 0, .slice none 0 0] 29 (0, 0)) := by
   rw [← hW]
   have := World.alloc_heap_new (w.alloc (.cells #[.string ⟨#[98]⟩, .string ⟨#[97]⟩] 9)) (.cells #[.int .i64 3, .bool false, .bool false, .string ⟨#[49]⟩, .int .i64 0, .string ⟨#[]⟩, .slice none 0 0, .slice none 0 0, .int .i64 5, .bool false, .bool false, .string ⟨#[]⟩, .int .i64 0, .string ⟨#[]⟩, .slice none 0 0, .slice none 0 0] 29)
   simp only [World.size_alloc] at this
   exact new_of this _
 have q3 : W.heap[w.heap.size + 1 + 1]? = some (.cells #[.int .i64 6, .bool false, .bool false, .string ⟨#[]⟩, .int .i64 0, .string ⟨#[]⟩, .slice (some ⟨w.heap.size, 0, none⟩) 2 2, .slice (some ⟨w.heap.size + 1, 0, none⟩) 2 2] 29 (0, 0)) := by
   rw [← hW]
   have := World.alloc_heap_new ((w.alloc (.cells #[.string ⟨#[98]⟩, .string ⟨#[97]⟩] 9)).alloc (.cells #[.int .i64 3, .bool false, .bool false, .string ⟨#[49]⟩, .int .i64 0, .string ⟨#[]⟩, .slice none 0 0, .slice none 0 0, .int .i64 5, .bool false, .bool false, .string ⟨#[]⟩, .int .i64 0, .string ⟨#[]⟩, .slice none 0 0, .slice none 0 0] 29)) (.cells #[.int .i64 6, .bool false, .bool false, .string ⟨#[]⟩, .int .i64 0, .string ⟨#[]⟩, .slice (some ⟨w.heap.size, 0, none⟩) 2 2, .slice (some ⟨w.heap.size + 1, 0, none⟩) 2 2] 29)
   simp only [World.size_alloc] at this
   exact this
 have hc : 5 * count vEx ≤ 100000 := by decide
 have hE := hold_ex q1 q2
 have H1 := print_any right_ex mild_ex hc hE (hl.below bW hl.lt) (hp.below bW)
 have H2 := fun (wx : World) (kx : Below W.heap.size W wx) => canon_any right_ex mild_ex hc (hE.below kx) (hl.below (bW.trans (kx.mono bW.size)) hl.lt) (hp.below (bW.trans (kx.mono bW.size)))
 rw [ex_print] at H1
 simp only [ex_canon] at H2
 have tP : (⟨#[123, 34, 98, 34, 58, 49, 44, 34, 97, 34, 58, 91, 93, 125]⟩ : ByteArray) = txt exP := rfl
 have tC : (⟨#[123, 34, 97, 34, 58, 91, 93, 44, 34, 98, 34, 58, 49, 125]⟩ : ByteArray) = txt exC := rfl
 generalize exP = lP at *
 generalize exC = lC at *
 have HW := Lib.hid hW
 have H1 := Lib.hid H1
 have H2 := Lib.hid H2
 have Q3 := Lib.hid q3
 have HB := Lib.hid bW
 clear hW q1 q2 hE hl hp hc bW q3
 go_enter Tryz.func12, Tryz.ntmps12
 go_wp2_with fail
 rw [HW.out]
 refine H1.out.mono ?_
 rintro e w1 ⟨rfl, k1⟩
 obtain ⟨c0, c1, c2, c3, c4, c5, c6, c7⟩ := Tre.eight ((k1.block _ (lt_of_heap Q3.out)).trans Q3.out)
 have HC := Lib.hid (H2.out _ k1)
 have HB1 := Lib.hid (HB.out.trans (k1.mono HB.out.size))
 clear k1
 go_wp2_with fail
 refine HC.out.mono ?_
 rintro e w2 ⟨rfl, k2⟩
 have HB2 := Lib.hid (HB1.out.trans (k2.mono HB1.out.size))
 clear k2
 go_wp2_with fail
 go_ret
 exact ⟨rfl, HB2.out⟩
end Go.Proofs.YtlfbnfphocpgeaaGreatDoor.Jenc
