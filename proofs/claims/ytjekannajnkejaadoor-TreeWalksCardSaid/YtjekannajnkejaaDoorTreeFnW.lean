/- The contract of package tree's Walk as it landed. Nothing is claimed here. -/
import Derived.Test.YtjekannajnkejaaDoorTreeFn
import Derived.Test.YtjekannajnkejaaDoorTreeTells
import Derived.RangeFuncBound
import Derived.Shelf.Abstract
import Derived.Stop.RegionWithIn
import Derived.OwnWalkIn
import Derived.TacticsInMore
import Derived.LoopNIn
import Derived.LoopIn
namespace Go.Proofs.YtjekannajnkejaaDoor.Tre
open Go.RowKit Kit Txt
open Num (Dec zero)
attribute [local go_sem] Oper.semAt_some

theorem room_none {F : Fence} (hd : F.depth = none) (k : Nat) : F.room k := fun d h => by rw [hd] at h; cases h
theorem yield_any {F : Fence} (hd : F.depth = none) {m : Nat} (m' : Nat) {P : Program} {l : Nat} {args : Array Value} {W : World} {R : Ending → World → Prop} (h : YieldAt F m P l args W R) : YieldAt F m' P l args W R := by
  obtain ⟨fn, tmps, assign, body, hy, hR⟩ := h
  exact ⟨fn, tmps, assign, body, hy, hR.1, fun c cs _ => hR.2 c cs (room_none hd _)⟩
theorem yield_mono {F : Fence} {m : Nat} {P : Program} {l : Nat} {args : Array Value} {W : World} {R R' : Ending → World → Prop} (h : YieldAt F m P l args W R) (hr : ∀ e w, R e w → R' e w) : YieldAt F m P l args W R' := by
  obtain ⟨fn, tmps, assign, body, hy, hR⟩ := h
  exact ⟨fn, tmps, assign, body, hy, hR.mono hr⟩
theorem KeptT.cell {n₀ lo : Nat} {A B : World} (h : KeptT n₀ lo A B) {b i : Nat} {v : Value} (hb : lo ≤ b) (hc : A.cell? ⟨b, i, none⟩ = some v) : B.cell? ⟨b, i, none⟩ = some v := by
  cases ho : A.heap[b]? with
  | none =>
    unfold World.cell? at hc
    rw [ho] at hc
    simp at hc
  | some o =>
    have hi : o.isCells = true := by
      unfold World.cell? at hc
      rw [ho] at hc
      cases o <;> simp_all [Obj.isCells]
    have := h.2 b o hb ho hi
    unfold World.cell? at hc ⊢
    rw [this]
    rw [ho] at hc
    exact hc
theorem KsP.cells {lo : Nat} {w w' : World} {u : Value} {ls : List (List UInt8)} (h : KsP (lo ≤ ·) w u ls) (hz : w.heap.size ≤ w'.heap.size) (hk : ∀ g i x, lo ≤ g → w.cell? ⟨g, i, none⟩ = some x → w'.cell? ⟨g, i, none⟩ = some x) : KsP (lo ≤ ·) w' u ls := by
  obtain ⟨a, c, hu, h1, h2, h3⟩ := h
  refine ⟨a, c, hu, h1, h2, h3.imp id ?_⟩
  rintro ⟨g, off, ha, hX, hg, hx⟩
  exact ⟨g, off, ha, hX, Nat.lt_of_lt_of_le hg hz, fun i l hi => hk _ _ _ hX (hx i l hi)⟩
mutual
theorem HoldP.cells {lo : Nat} {w w' : World} (hz : w.heap.size ≤ w'.heap.size) (hk : ∀ g i x, lo ≤ g → w.cell? ⟨g, i, none⟩ = some x → w'.cell? ⟨g, i, none⟩ = some x) : ∀ (v : Val) {cs : List Value}, HoldP (lo ≤ ·) w cs v → HoldP (lo ≤ ·) w' cs v
  | ⟨k, i, n, s, ks, vs⟩, cs, h => by
    rw [HoldP] at h ⊢
    obtain ⟨uk, a, c, hcs, hks, hc, hm, h⟩ := h
    refine ⟨uk, a, c, hcs, hks.cells hz hk, hc, hm, h.imp id ?_⟩
    rintro ⟨g, off, ha, hX, hg, hx⟩
    exact ⟨g, off, ha, hX, Nat.lt_of_lt_of_le hg hz, HoldsP.cells hz hk vs hX hx⟩
theorem HoldsP.cells {lo : Nat} {w w' : World} (hz : w.heap.size ≤ w'.heap.size) (hk : ∀ g i x, lo ≤ g → w.cell? ⟨g, i, none⟩ = some x → w'.cell? ⟨g, i, none⟩ = some x) : ∀ (vs : List Val) {g off : Nat}, lo ≤ g → HoldsP (lo ≤ ·) w g off vs → HoldsP (lo ≤ ·) w' g off vs
  | [], _, _, _, _ => by rw [HoldsP]; trivial
  | v :: r, g, off, hX, h => by
    rw [HoldsP] at h ⊢
    obtain ⟨⟨cs, h8, hv⟩, hr⟩ := h
    refine ⟨⟨cs, ⟨h8.1, fun j hj => ?_⟩, HoldP.cells hz hk v hv⟩, HoldsP.cells hz hk r hX hr⟩
    have hj' : j < cs.length := by rw [h8.1]; exact hj
    rw [List.getElem?_eq_getElem hj']
    exact hk _ _ _ hX ((h8.2 j hj).trans (List.getElem?_eq_getElem hj'))
end
theorem walks_append (d : Nat) : ∀ a b : List Val, walks d (a ++ b) = walks d a ++ walks d b
  | [], b => by simp [walks]
  | x :: a, b => by rw [List.cons_append, walks, walks, walks_append d a b, List.append_assoc]
theorem grown_of_below {A B : World} (h : Below A.heap.size A B) : A.grownBy B none := ⟨h.os, h.tape, h.output, h.size, fun k hk _ => h.block k hk⟩

/-- What tell is told, and what it leaves. -/
def TellOk (v : Val) (B lo Y T : Nat) (l : Nat) (J Jx : List (Nat × Value) → World → Prop) (x : Val) : Prop :=
  ∀ (d : Nat) (V : World) (u : Value) (pre : List (Nat × Value)), HoldX (lo ≤ ·) V u x → V.cell? ⟨Y, 0, none⟩ = some (.func (.yield l) #[] #[]) → V.cell? ⟨T, 0, none⟩ = some (.func (.func 37) #[] #[.pointer (some ⟨Y, 0, none⟩), .pointer (some ⟨T, 0, none⟩)]) → lo ≤ Y → lo ≤ T → B ≤ V.heap.size → lo ≤ V.heap.size → J pre V →
    d + count x < 1000000 → (∃ rest, (walk 0 v).drop pre.length = walk d x ++ rest) →
    Calls Tryd.prog 37 #[.int .i64 d, u, .pointer (some ⟨Y, 0, none⟩), .pointer (some ⟨T, 0, none⟩)] V fun e V' =>
      (e = .returned (.bool true) ∧ (∃ xs : List (Nat × Value), xs.length = (walk d x).length ∧ J (pre ++ xs) V') ∧ KeptT B lo V V') ∨ (e = .returned (.bool false) ∧ ∃ q : List (Nat × Value), q.length ≤ (walk 0 v).length ∧ Jx q V')

set_option maxRecDepth 100000 in
set_option maxHeartbeats 8000000 in
theorem tell_any {v : Val} {B lo Y T l W0 : Nat} {J Jx : List (Nat × Value) → World → Prop} (hJ : AbidesFrom W0 J)
    (hY : ∀ m pre x V, J pre V → EW v pre x V → pre.length < (walk 0 v).length → YieldAt Fence.wide m Tryd.prog l (encsW x) V fun e V' => (e = .returned (.bool true) ∧ J (pre ++ [x]) V' ∧ KeptT B lo V V') ∨ (e = .returned (.bool false) ∧ Jx (pre ++ [x]) V')) :
    ∀ x : Val, Mild x → count x < 1000000 → TellOk v B lo Y T l J Jx x := by
  refine ind1 fun x ih hm hct => ?_
  intro d V u pre hx hYc hTc hYl hTl hBV hloV hJ0 hd hw
  obtain ⟨rest, hw⟩ := hw
  have hkid := hm.kids
  obtain ⟨k, b, n, s, ks, vs⟩ := x
  have hck : count ⟨k, b, n, s, ks, vs⟩ = 1 + ks.length + counts vs := by rw [count]
  have hlen := counts_lenF vs
  have IH : ∀ y ∈ vs, TellOk v B lo Y T l J Jx y := fun y hy => ih y hy (hkid y hy) (by have := counts_memF hy; omega)
  have hwx : walk d ⟨k, b, n, s, ks, vs⟩ = (d, ⟨k, b, n, s, ks, vs⟩) :: walks (d + 1) vs := by rw [walk]
  have hplt : pre.length < (walk 0 v).length := by
    have := congrArg List.length hw
    rw [List.length_drop, List.length_append, hwx, List.length_cons] at this
    omega
  have hat : (walk 0 v)[pre.length]? = some (d, ⟨k, b, n, s, ks, vs⟩) := by
    have : ((walk 0 v).drop pre.length)[0]? = some (d, ⟨k, b, n, s, ks, vs⟩) := by rw [hw, hwx]; rfl
    rwa [List.getElem?_drop, Nat.add_zero] at this
  have hbl : ∀ V', KeptT B lo V V' → V.heap.size ≤ V'.heap.size := fun V' h => h.1.size
  obtain ⟨cs, rfl, hP⟩ := hx
  have hHV : HoldV V (.agg cs.toArray) ⟨k, b, n, s, ks, vs⟩ := ⟨cs, rfl, HoldP.hold _ hP⟩
  have hcopy := fun (wx : World) (hb : Below V.heap.size V wx) => tcopy_of ⟨k, b, n, s, ks, vs⟩ hm hct wx (.agg cs.toArray) (hHV.below hb)
  rw [HoldP] at hP
  obtain ⟨uk, a, c, rfl, ⟨pk, ck, rfl, -⟩, hc, hmx, hV⟩ := hP
  have hC : ∀ wx, Below V.heap.size V wx → Calls Tryd.prog 18 #[.agg #[.int .i64 k, .bool b, .bool n.neg, .string (txt n.dig), .int .i64 n.exp, .string (txt s), .slice pk ks.length ck, .slice a vs.length c]] wx (Copied ⟨k, b, n, s, ks, vs⟩ wx) := hcopy
  have hCY : ∀ wx, Below V.heap.size V wx → Calls Tryd.prog 18 #[.agg #[.int .i64 k, .bool b, .bool n.neg, .string (txt n.dig), .int .i64 n.exp, .string (txt s), .slice pk ks.length ck, .slice a vs.length c]] wx fun e V1 => ∃ y, e = .returned y ∧ KeptT B lo wx V1 ∧ YieldAt Fence.wide 4 Tryd.prog l #[.int .i64 d, y] V1 fun e V2 => ∃ r : Bool, e = .returned (.bool r) ∧ (r = true → (∃ x1, J (pre ++ [x1]) V2) ∧ KeptT B lo wx V2) ∧ (r = false → ∃ x1, Jx (pre ++ [x1]) V2) := fun wx hb => by
    refine (hC wx hb).mono ?_
    rintro e V1 ⟨⟨cs1, rfl, hs⟩, k1⟩
    have kk : KeptT B lo wx V1 := KeptT.of_below k1 (Nat.le_trans hBV hb.size)
    have j1 : J pre V1 := hJ pre V V1 none hJ0 (grown_of_below (hb.trans (k1.mono hb.size))) (fun r e => by cases e)
    refine ⟨_, rfl, kk, yield_mono (hY 4 pre (d, .agg cs1.toArray) V1 j1 ⟨_, hat, cs1, rfl, HoldP.hold _ (Sep.holdP _ hs)⟩ hplt) ?_⟩
    rintro e V2 (⟨rfl, hj2, hk2⟩ | ⟨rfl, hjx⟩)
    · exact ⟨true, rfl, ⟨fun _ => ⟨⟨_, hj2⟩, kk.trans hk2⟩, fun h => (by cases h)⟩⟩
    · exact ⟨false, rfl, ⟨fun h => (by cases h), fun _ => ⟨_, hjx⟩⟩⟩
  have hA := World.alloc_heap_new V (.cells #[.int .i64 k, .bool b, .bool n.neg, .string (txt n.dig), .int .i64 n.exp, .string (txt s), .slice pk ks.length ck, .slice a vs.length c] 27)
  have bA : Below V.heap.size V (V.alloc (.cells #[.int .i64 k, .bool b, .bool n.neg, .string (txt n.dig), .int .i64 n.exp, .string (txt s), .slice pk ks.length ck, .slice a vs.length c] 27)) := (Below.refl _ V).alloc (Nat.le_refl _) _
  have hYc1 := KeptT.cell (KeptT.of_below (n₀ := B) (lo := lo) bA hBV) hYl hYc
  obtain ⟨V0, hV0⟩ : ∃ V0, V.alloc (.cells #[.int .i64 k, .bool b, .bool n.neg, .string (txt n.dig), .int .i64 n.exp, .string (txt s), .slice pk ks.length ck, .slice a vs.length c] 27) = V0 := ⟨_, rfl⟩
  rw [hV0] at hA bA hYc1
  have HC := Lib.hid (hCY V0.drew (below_drewN bA 1))
  have HIH := Lib.hid IH
  have HV := Lib.hid hV
  have HW := Lib.hid (And.intro hw hwx)
  have HYT := Lib.hid (And.intro hYc hTc)
  clear hcopy hC hCY hHV ih hkid IH hm hct hw hwx hat hV hYc hTc hck
  obtain ⟨c0, c1, c2, c3, c4, c5, c6, c7⟩ := eight hA
  have wd : IntKind.i64.wrap ((d : Int) + 1) = ((d + 1 : Nat) : Int) := by
    rw [wrap_id (by omega) (by omega)]
    omega
  show Calls Tryd.prog 37 #[.int .i64 d, .agg #[.int .i64 k, .bool b, .bool n.neg, .string (txt n.dig), .int .i64 n.exp, .string (txt s), .slice pk ks.length ck, .slice a vs.length c], .pointer (some ⟨Y, 0, none⟩), .pointer (some ⟨T, 0, none⟩)] V _
  refine (callsIn_wide (n := 5)).1 ?_
  refine callsIn_of_wp Tryd.func37 rfl trivial ?_ rfl
  simp only [Tryd.ntmps37, List.size_toArray, List.length_cons, List.length_nil, Nat.reduceAdd, Nat.reduceSub, Array.replicate_succ, Array.replicate_zero, List.push_toArray, List.append_toArray, List.nil_append, List.cons_append]
  gi_wp2_with fail
  clear hV0
  gi_region_with (first
    | (refine ⟨trivial, ?_⟩; gi_at_call 18; refine (callsIn_wide.2 HC.out).mono ?_; rintro e V1 ⟨y, rfl, kk, fn, tmps, assign, body, hy, hR⟩; have hYd := KeptT.cell (A := V0.drew) kk hYl hYc1)
    | (refine hR.mono ?_; rintro e V2 ⟨r, rfl, hr1, hr2⟩))
  all_goals
    cases r with
    | false =>
      obtain ⟨x1, hjx⟩ := hr2 rfl
      have HJX := Lib.hid hjx
      clear hr1 hr2 hjx
      gi_wp2_with fail
      go_ret
      exact .inr ⟨rfl, _, by rw [List.length_append]; simp; omega, HJX.out⟩
    | true =>
      obtain ⟨⟨x1, hj2⟩, hk2⟩ := hr1 rfl
      have kV2 : KeptT B lo V V2 := (KeptT.of_below (below_drewN bA 1) hBV).trans hk2
      have hA2 : V2.heap[V.heap.size]? = some (.cells #[.int .i64 k, .bool b, .bool n.neg, .string (txt n.dig), .int .i64 n.exp, .string (txt s), .slice pk ks.length ck, .slice a vs.length c] 27 (0, 0)) := hk2.2 V.heap.size _ hloV hA rfl
      have HK2 := Lib.hid kV2
      have HJ2 := Lib.hid hj2
      clear hr1 hr2 hj2 hk2 hy hR kV2 c0 c1 c2 c3 c4 c5 c6 c7 hYd hYc1
      obtain ⟨c0, c1, c2, c3, c4, c5, c6, c7⟩ := eight hA2
      gi_wp2_with fail
      clear c0 c1 c2 c3 c4 c5 c6 c7
      gi_loopw [18] (fun y wr => ∃ (j : Nat) (xs : List (Nat × Value)), j ≤ vs.length ∧ y = .int .i64 j ∧ xs.length = 1 + (walks (d + 1) (vs.take j)).length ∧ J (pre ++ xs) wr ∧ KeptT B lo V wr) (fun y _ => vs.length - (intOf y).toNat)
      case atStart => exact ⟨0, [x1], Nat.zero_le _, rfl, by simp [walks], HJ2.out, HK2.out⟩
      case round =>
        obtain ⟨j, xs, hj, rfl, hxl, hjj, kW⟩ := hrel
        clear hA2 HK2 HJ2 hA bA
        by_cases hlt : j < vs.length
        · have hlt' : (j : Int) < (vs.length : Int) := by omega
          rcases HV.out with h0 | ⟨g, off, rfl, hgX, hgl, hh⟩
          · rw [h0] at hlt
            exact absurd hlt (Nat.not_lt_zero _)
          have hgX : lo ≤ g := hgX
          have hh2 := HoldsP.cells kW.1.size (fun g i x hg hc => kW.cell hg hc) vs hgX hh
          obtain ⟨cs8, h8, hP8⟩ := HoldsP.at hh2 (List.getElem?_eq_getElem hlt)
          have hcall := HIH.out vs[j] (List.getElem_mem hlt)
          have hcnt := counts_memF (List.getElem_mem hlt)
          have hst : vs.take (j + 1) = vs.take j ++ [vs[j]] := List.take_succ_eq_append_getElem hlt
          have hwalk : ∃ rest', (walk 0 v).drop (pre ++ xs).length = walk (d + 1) vs[j] ++ rest' := by
            refine ⟨walks (d + 1) (vs.drop (j + 1)) ++ rest, ?_⟩
            have e1 : vs = vs.take j ++ (vs[j] :: vs.drop (j + 1)) := by rw [← List.drop_eq_getElem_cons hlt, List.take_append_drop]
            have e2 : walks (d + 1) vs = walks (d + 1) (vs.take j) ++ (walk (d + 1) vs[j] ++ walks (d + 1) (vs.drop (j + 1))) := by
              conv => lhs; rw [e1]
              rw [walks_append, walks]
            rw [List.length_append, ← List.drop_drop, HW.out.1, HW.out.2, hxl, e2, Nat.add_comm 1, List.cons_append, List.drop_succ_cons, List.append_assoc, List.drop_left, List.append_assoc]
          generalize vs[j] = x at *
          have HST := Lib.hid hst
          have HKW := Lib.hid kW
          clear hst hh hh2
          obtain ⟨k', b', n', s', ks', vs'⟩ := x
          have hP9 := hP8
          rw [HoldP] at hP9
          obtain ⟨uk', a', c', rfl, ⟨pk', ck', rfl, -⟩, -, -, -⟩ := hP9
          obtain ⟨d0, d1, d2, d3, d4, d5, d6, d7⟩ := h8.cells
          have hB2 := World.alloc_heap_new wr (.cells #[.int .i64 k', .bool b', .bool n'.neg, .string (txt n'.dig), .int .i64 n'.exp, .string (txt s'), .slice pk' ks'.length ck', .slice a' vs'.length c'] 27)
          have bC0 : Below wr.heap.size wr (wr.alloc (.cells #[.int .i64 k', .bool b', .bool n'.neg, .string (txt n'.dig), .int .i64 n'.exp, .string (txt s'), .slice pk' ks'.length ck', .slice a' vs'.length c'] 27)) := (Below.refl _ wr).alloc (Nat.le_refl _) _
          have hjB : J (pre ++ xs) (wr.alloc (.cells #[.int .i64 k', .bool b', .bool n'.neg, .string (txt n'.dig), .int .i64 n'.exp, .string (txt s'), .slice pk' ks'.length ck', .slice a' vs'.length c'] 27)) := hJ _ wr _ none hjj (World.grownBy_alloc wr _ none) (fun r e => by cases e)
          obtain ⟨wB, hwB⟩ : ∃ wB, wr.alloc (.cells #[.int .i64 k', .bool b', .bool n'.neg, .string (txt n'.dig), .int .i64 n'.exp, .string (txt s'), .slice pk' ks'.length ck', .slice a' vs'.length c'] 27) = wB := ⟨_, rfl⟩
          rw [hwB] at hB2 bC0 hjB
          have hsz := kW.1.size
          have kB : KeptT B lo wr wB := KeptT.of_below bC0 (by omega)
          have hYB := kB.cell hYl (kW.cell hYl HYT.out.1)
          have hTB := kB.cell hTl (kW.cell hTl HYT.out.2)
          have hPB := HoldP.keep (X := (lo ≤ ·)) bC0.size (fun q _ hq => bC0.block q hq) _ hP8
          have hc2 : Calls Tryd.prog 37 #[.int .i64 (d + 1 : Nat), .agg #[.int .i64 k', .bool b', .bool n'.neg, .string (txt n'.dig), .int .i64 n'.exp, .string (txt s'), .slice pk' ks'.length ck', .slice a' vs'.length c'], .pointer (some ⟨Y, 0, none⟩), .pointer (some ⟨T, 0, none⟩)] wB fun e V' => ∃ r : Bool, e = .returned (.bool r) ∧ (r = true → (∃ ys : List (Nat × Value), ys.length = (walk (d + 1) ⟨k', b', n', s', ks', vs'⟩).length ∧ J (pre ++ xs ++ ys) V') ∧ KeptT B lo wB V') ∧ (r = false → ∃ q : List (Nat × Value), q.length ≤ (walk 0 v).length ∧ Jx q V') := by
            refine (hcall (d + 1) wB (.agg #[.int .i64 k', .bool b', .bool n'.neg, .string (txt n'.dig), .int .i64 n'.exp, .string (txt s'), .slice pk' ks'.length ck', .slice a' vs'.length c']) (pre ++ xs) ⟨_, rfl, hPB⟩ hYB hTB hYl hTl (by have := bC0.size; omega) (by have := bC0.size; omega) hjB (by rw [count] at hd; omega) hwalk).mono ?_
            rintro e V' (⟨rfl, hys, hkk⟩ | ⟨rfl, hq⟩)
            · exact ⟨true, rfl, ⟨fun _ => ⟨hys, hkk⟩, fun h => (by cases h)⟩⟩
            · exact ⟨false, rfl, ⟨fun h => (by cases h), fun _ => hq⟩⟩
          have HC2 := Lib.hid hc2
          have HKB := Lib.hid kB
          have hgw : g < wr.heap.size := by omega
          clear hc2 hcall hwalk hjB hjj hP8 hPB h8 kW kB
          obtain ⟨e0, e1, e2, e3, e4, e5, e6, e7⟩ := eight hB2
          have wk : IntKind.i64.wrap ((j : Int) + 1) = (j : Int) + 1 := by simp only [IntKind.wrap, IntKind.signed, IntKind.bits]; simp; omega
          gi_wp2_with fail
          clear hwB
          refine ⟨trivial, (callsIn_wide.2 HC2.out).mono ?_⟩
          rintro e V3 ⟨r3, rfl, hr3, hr4⟩
          cases r3 with
          | false =>
            have HJX := Lib.hid (hr4 rfl)
            clear hr3 hr4
            gi_wp2_with fail
            go_ret
            exact .inr ⟨rfl, HJX.out⟩
          | true =>
            obtain ⟨⟨ys, hyl, hyj⟩, hyk⟩ := hr3 rfl
            have hxs : (xs ++ ys).length = 1 + (walks (d + 1) (vs.take (j + 1))).length := by
              rw [List.length_append, hxl, hyl, HST.out, walks_append, List.length_append, walks, walks, List.append_nil]
              omega
            have R1 := Lib.hid hxs
            have R2 := Lib.hid (show J (pre ++ (xs ++ ys)) V3 by rw [← List.append_assoc]; exact hyj)
            have R3 := Lib.hid (HKW.out.trans (HKB.out.trans hyk))
            clear hr3 hr4 hyl hyj hyk hxs hxl
            gi_wp2_with fail
            go_roundw
            case rel => exact ⟨j + 1, xs ++ ys, by omega, by go_num, R1.out, R2.out, R3.out⟩
            case measure => simp [intOf]; omega
        · obtain rfl : j = vs.length := by omega
          rw [List.take_length] at hxl
          have HXL := Lib.hid hxl
          have HJJ := Lib.hid hjj
          have HKW := Lib.hid kW
          clear hxl hjj kW
          gi_wp2_with fail
          go_ret
          exact .inl ⟨rfl, ⟨xs, by rw [HW.out.2, List.length_cons, HXL.out]; omega, HJJ.out⟩, HKW.out⟩

set_option maxRecDepth 100000 in
set_option maxHeartbeats 8000000 in
theorem walk1_any {v : Val} (hm : Mild v) (hct : count v < 1000000) {B lo C l : Nat} {J Jx : List (Nat × Value) → World → Prop} {W : World} (hJ : AbidesFrom W.heap.size J)
    (hY : ∀ m pre x V, J pre V → EW v pre x V → pre.length < (walk 0 v).length → YieldAt Fence.wide m Tryd.prog l (encsW x) V fun e V' => (e = .returned (.bool true) ∧ J (pre ++ [x]) V' ∧ KeptT B lo V V') ∨ (e = .returned (.bool false) ∧ Jx (pre ++ [x]) V'))
    (hBW : B ≤ W.heap.size) (hlo : lo ≤ W.heap.size) {cs : List Value} (hC : At8 W C 0 cs) (hx : HoldX (lo ≤ ·) W (.agg cs.toArray) v) (h0 : J [] W) :
    Calls Tryd.prog 36 #[.func (.yield l) #[] #[], .pointer (some ⟨C, 0, none⟩)] W fun e V' => (∃ r, e = .returned r) ∧ ((∃ xs : List (Nat × Value), xs.length = (walk 0 v).length ∧ J xs V') ∨ (∃ pre : List (Nat × Value), pre.length ≤ (walk 0 v).length ∧ Jx pre V')) := by
  obtain ⟨pk2, ck2, a2, c2, he⟩ := holdV_form hx.hold
  injection he with he
  have he2 : cs = [.int .i64 v.kind, .bool v.is, .bool v.num.neg, .string (txt v.num.dig), .int .i64 v.num.exp, .string (txt v.str), .slice pk2 v.keys.length ck2, .slice a2 v.kids.length c2] := by simpa using congrArg Array.toList he
  subst he2
  clear he
  have hY0 := new_of (World.alloc_heap_new W (.cells #[.func (.yield l) #[] #[]] 57)) (.cells #[.nilFunc] 57)
  have hT0 := World.alloc_heap_new (W.alloc (.cells #[.func (.yield l) #[] #[]] 57)) (.cells #[.nilFunc] 57)
  rw [World.size_alloc] at hT0
  have b0 : Below W.heap.size W ((W.alloc (.cells #[.func (.yield l) #[] #[]] 57)).alloc (.cells #[.nilFunc] 57)) := ((Below.refl _ W).alloc (Nat.le_refl _) _).alloc (by simp) _
  obtain ⟨W0, hW0⟩ : ∃ W0, (W.alloc (.cells #[.func (.yield l) #[] #[]] 57)).alloc (.cells #[.nilFunc] 57) = W0 := ⟨_, rfl⟩
  rw [hW0] at hY0 hT0 b0
  have q0 := cell_of hT0 0
  have f0 := free_of hT0 0
  simp only [List.getElem?_toArray, List.getElem?_cons_zero] at q0
  have hTn : (W0.setCell ⟨W.heap.size + 1, 0, none⟩ (.func (.func 37) #[] #[.pointer (some ⟨W.heap.size, 0, none⟩), .pointer (some ⟨W.heap.size + 1, 0, none⟩)])).heap[W.heap.size + 1]? = some (.cells #[.func (.func 37) #[] #[.pointer (some ⟨W.heap.size, 0, none⟩), .pointer (some ⟨W.heap.size + 1, 0, none⟩)]] 57 (0, 0)) := by simpa using set_of hT0 0 (.func (.func 37) #[] #[.pointer (some ⟨W.heap.size, 0, none⟩), .pointer (some ⟨W.heap.size + 1, 0, none⟩)])
  have hYn := (setc_other (W := W0) (g := W.heap.size + 1) (i := 0) (k := W.heap.size) (.func (.func 37) #[] #[.pointer (some ⟨W.heap.size, 0, none⟩), .pointer (some ⟨W.heap.size + 1, 0, none⟩)]) (by omega)).trans hY0
  have b1 : Below W.heap.size W (W0.setCell ⟨W.heap.size + 1, 0, none⟩ (.func (.func 37) #[] #[.pointer (some ⟨W.heap.size, 0, none⟩), .pointer (some ⟨W.heap.size + 1, 0, none⟩)])) := b0.setCell (p := ⟨W.heap.size + 1, 0, none⟩) (by show W.heap.size ≤ W.heap.size + 1; omega) _
  obtain ⟨W1, hW1⟩ : ∃ W1, W0.setCell ⟨W.heap.size + 1, 0, none⟩ (.func (.func 37) #[] #[.pointer (some ⟨W.heap.size, 0, none⟩), .pointer (some ⟨W.heap.size + 1, 0, none⟩)]) = W1 := ⟨_, rfl⟩
  rw [hW1] at hYn hTn b1
  have hz1 := b1.size
  have hzn : W1.heap.size = W0.heap.size := by rw [← hW1]; simp [World.setCell]
  have hxB : HoldX (lo ≤ ·) W1 _ v := hx.below b1
  have j1 : J [] W1 := hJ [] W W1 none h0 (grown_of_below b1) (fun r e => by cases e)
  have htell := tell_any (T := W.heap.size + 1) (Y := W.heap.size) hJ hY v hm hct 0 W1 _ [] hxB (cell_of hYn 0) (cell_of hTn 0) hlo (by omega) (by omega) (by omega) j1 (by omega) ⟨[], by simp⟩
  have hc2 : Calls Tryd.prog 37 #[.int .i64 0, .agg #[.int .i64 v.kind, .bool v.is, .bool v.num.neg, .string (txt v.num.dig), .int .i64 v.num.exp, .string (txt v.str), .slice pk2 v.keys.length ck2, .slice a2 v.kids.length c2], .pointer (some ⟨W.heap.size, 0, none⟩), .pointer (some ⟨W.heap.size + 1, 0, none⟩)] W1 fun e V' => (∃ r : Bool, e = .returned (.bool r)) ∧ ((∃ xs : List (Nat × Value), xs.length = (walk 0 v).length ∧ J xs V') ∨ (∃ pre : List (Nat × Value), pre.length ≤ (walk 0 v).length ∧ Jx pre V')) := by
    refine htell.mono ?_
    rintro e V' (⟨rfl, ⟨xs, h1, h2⟩, -⟩ | ⟨rfl, q, h1, h2⟩)
    · exact ⟨⟨_, rfl⟩, .inl ⟨xs, h1, by simpa using h2⟩⟩
    · exact ⟨⟨_, rfl⟩, .inr ⟨q, h1, h2⟩⟩
  have hCW : At8 W1 C 0 [.int .i64 v.kind, .bool v.is, .bool v.num.neg, .string (txt v.num.dig), .int .i64 v.num.exp, .string (txt v.str), .slice pk2 v.keys.length ck2, .slice a2 v.kids.length c2] := hC.below (World.block_lt_of_cell? _ _ (hC.2 0 (by omega))) b1
  have x0 := hCW.2 0 (by omega)
  have x1 := hCW.2 1 (by omega)
  have x2 := hCW.2 2 (by omega)
  have x3 := hCW.2 3 (by omega)
  have x4 := hCW.2 4 (by omega)
  have x5 := hCW.2 5 (by omega)
  have x6 := hCW.2 6 (by omega)
  have x7 := hCW.2 7 (by omega)
  simp only [Nat.zero_add, List.getElem?_cons_zero, List.getElem?_cons_succ] at x0 x1 x2 x3 x4 x5 x6 x7
  have t0 := cell_of hTn 0
  simp only [List.getElem?_toArray, List.getElem?_cons_zero] at t0
  have hst : ∀ wx : World, (store (⟨W.heap.size + 1, 0, none⟩ : Addr) (.func (.func 37) #[] #[.pointer (some ⟨W.heap.size, 0, none⟩), .pointer (some ⟨W.heap.size + 1, 0, none⟩)])).run Tryd.prog wx = stored Tryd.prog wx ⟨W.heap.size + 1, 0, none⟩ (.func (.func 37) #[] #[.pointer (some ⟨W.heap.size, 0, none⟩), .pointer (some ⟨W.heap.size + 1, 0, none⟩)]) .plain := fun wx => run_store _ wx _ _ _ rfl
  have HC2 := Lib.hid hc2
  clear hc2 htell hxB j1 hCW hC hx hY hJ h0 hm hct
  generalize v.kind = k0 at *
  generalize v.is = i0 at *
  generalize v.num = n0 at *
  generalize v.str = s0 at *
  generalize v.keys.length = lk0 at *
  generalize v.kids.length = lv0 at *
  generalize (walk 0 v).length = N at *
  refine (callsIn_wide (n := 5)).1 ?_
  refine callsIn_of_wp Tryd.func36 rfl trivial ?_ rfl
  simp only [Tryd.ntmps36, List.size_toArray, List.length_cons, List.length_nil, Nat.reduceAdd, Nat.reduceSub, Array.replicate_succ, Array.replicate_zero, List.push_toArray, List.append_toArray, List.nil_append, List.cons_append]
  gi_wp2_with fail
  clear hW1 hW0
  refine ⟨trivial, (callsIn_wide.2 HC2.out).mono ?_⟩
  rintro e V3 ⟨⟨r, rfl⟩, hp⟩
  have HP := Lib.hid hp
  clear hp
  gi_wp2_with fail
  go_end0
  exact ⟨⟨_, rfl⟩, HP.out⟩

set_option maxRecDepth 100000 in
set_option maxHeartbeats 8000000 in
theorem twalk_any {B : Nat} {w : World} (_ho : Ok w) {v : Val} {u : Value} (hm : Mild v) (hc : count v < 1000000) (hB : B ≤ w.heap.size) (h : HoldX (· < B) w u v) : Calls Tryd.prog 24 #[u] w fun e w' => (∃ lb, e = .returned (.func (.func 36) #[] lb) ∧ SeqTells Fence.wide 4 Tryd.prog 36 lb encsW (EW v) (KeptT B w.heap.size) (fun xs => xs.length = (walk 0 v).length) (fun pre => pre.length ≤ (walk 0 v).length) (walk 0 v).length w') ∧ Below w.heap.size w w' := by
  have hcopy := fun (wx : World) (hb : Below w.heap.size w wx) => tcopy_of v hm hc wx u (h.hold.below hb)
  obtain ⟨pk, ck, a, c, rfl⟩ := holdV_form h.hold
  have hA := World.alloc_heap_new w (.cells #[.int .i64 v.kind, .bool v.is, .bool v.num.neg, .string (txt v.num.dig), .int .i64 v.num.exp, .string (txt v.str), .slice pk v.keys.length ck, .slice a v.kids.length c] 27)
  have b0 : Below w.heap.size w (w.alloc (.cells #[.int .i64 v.kind, .bool v.is, .bool v.num.neg, .string (txt v.num.dig), .int .i64 v.num.exp, .string (txt v.str), .slice pk v.keys.length ck, .slice a v.kids.length c] 27)) := (Below.refl _ w).alloc (Nat.le_refl _) _
  have HC := Lib.hid (hcopy _ b0)
  have hform := fun (w' : World) (cs : List Value) (lo hi : Nat) (hs : Sep w' lo hi cs v) => holdV_form (v := v) ⟨cs, rfl, HoldP.hold v (Sep.holdP v hs)⟩
  have hz0 : w.heap.size ≤ (w.alloc (.cells #[.int .i64 v.kind, .bool v.is, .bool v.num.neg, .string (txt v.num.dig), .int .i64 v.num.exp, .string (txt v.str), .slice pk v.keys.length ck, .slice a v.kids.length c] 27)).heap.size := b0.size
  -- what the iterator is, once the copy lies there
  have hseq : ∀ (w1 : World) (cs : List Value) (lo1 : Nat), Below w.heap.size w w1 → w.heap.size ≤ lo1 → Sep w1 lo1 w1.heap.size cs v → SeqTells Fence.wide 4 Tryd.prog 36 #[.pointer (some ⟨w1.heap.size, 0, none⟩)] encsW (EW v) (KeptT B w.heap.size) (fun xs => xs.length = (walk 0 v).length) (fun pre => pre.length ≤ (walk 0 v).length) (walk 0 v).length (w1.alloc (.cells cs.toArray 27)) := by
    intro w1 cs lo1 hb1 hlo1 hs l J Jx W hW hJ hJx hY h0
    have hn := World.alloc_heap_new w1 (.cells cs.toArray 27)
    have hs2 : HoldX (w.heap.size ≤ ·) (w1.alloc (.cells cs.toArray 27)) (.agg cs.toArray) v := ⟨cs, rfl, HoldP.mono (fun g h _ => by omega) v (Sep.holdP v (Sep.keep v (fun q _ h2 => Below.heap_alloc _ _ _ h2) hs))⟩
    have hl8 : cs.length = 8 := holdP_len (Sep.holdP v hs)
    have h8 : At8 (w1.alloc (.cells cs.toArray 27)) w1.heap.size 0 cs := ⟨hl8, fun j hj => by
      rw [cell_of hn, Nat.zero_add]
      simp⟩
    have hzW := hW.size
    rw [World.size_alloc] at hzW
    have hz1 := hb1.size
    exact callsIn_wide.2 (walk1_any hm hc hJ (fun m pre x V a1 a2 a3 => yield_any rfl m (hY pre x V a1 a2 a3)) (by omega) (by omega) (h8.below (by simp) hW) (hs2.below hW) h0)
  have HF := Lib.hid hform
  have HSQ := Lib.hid hseq
  clear hcopy hform hseq h
  generalize hk0 : v.kind = k0 at *
  generalize hi0 : v.is = i0 at *
  generalize hn0 : v.num = n0 at *
  generalize hs0 : v.str = s0 at *
  generalize hlk0 : v.keys.length = lk0 at *
  generalize hlv0 : v.kids.length = lv0 at *
  clear hk0 hi0 hn0 hs0 hlk0 hlv0
  obtain ⟨c0, c1, c2', c3, c4, c5, c6, c7⟩ := eight hA
  go_enter Tryd.func24, Tryd.ntmps24
  go_wp2_with fail
  refine HC.out.mono ?_
  rintro e w1 ⟨⟨cs, rfl, hsep⟩, k1⟩
  have b1 := b0.trans (k1.mono b0.size)
  have hsq := HSQ.out w1 cs _ b1 hz0 hsep
  obtain ⟨pk2, ck2, a2, c2, he⟩ := HF.out w1 cs _ _ hsep
  injection he with he
  have he2 : cs = [.int .i64 k0, .bool i0, .bool n0.neg, .string (txt n0.dig), .int .i64 n0.exp, .string (txt s0), .slice pk2 lk0 ck2, .slice a2 lv0 c2] := by simpa using congrArg Array.toList he
  subst he2
  have FIN := Lib.hid (And.intro hsq (b1.alloc b1.size (.cells #[.int .i64 k0, .bool i0, .bool n0.neg, .string (txt n0.dig), .int .i64 n0.exp, .string (txt s0), .slice pk2 lk0 ck2, .slice a2 lv0 c2] 27)))
  clear he hsq hsep HF HSQ HC c0 c1 c2' c3 c4 c5 c6 c7 hA
  go_wp2_with fail
  go_ret
  exact ⟨⟨_, rfl, FIN.out.1⟩, FIN.out.2⟩
end Go.Proofs.YtjekannajnkejaaDoor.Tre
