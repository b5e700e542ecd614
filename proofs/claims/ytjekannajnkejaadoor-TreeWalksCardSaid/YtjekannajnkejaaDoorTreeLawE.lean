/- The walk of TreeWalks, over the contracts of package tree (XTreeFn). Nothing is claimed here. -/
import Derived.Test.YtjekannajnkejaaDoorTreeLawC
import Derived.Test.YtjekannajnkejaaDoorTreeFnW
import Derived.Test.YtjekannajnkejaaDoorTells
import Derived.RangeFuncBox
import Derived.Shelf.RegionOpen
namespace Go.Proofs.YtjekannajnkejaaDoor.Tre
open Go.RowKit Kit Txt
open Num (Dec zero)
attribute [local go_sem] Oper.semAt_some

/-- 'f != nil' of a function. -/
theorem equalIn_func_nil {P : Program} {t : TypeId} {ps rs : Array TypeId} {v : Bool} (h : P.underlying t = some (.func ps rs v)) (d : Nat) (f : Fn) (a b : Array Value) (w : World) : (Op.equalIn (d + 1) t (.func f a b) .nilFunc).run P w = .ok false w := by
  simp [Op.equalIn, run_underlying h]
theorem neq_func_nil {P : Program} {t : TypeId} {ps rs : Array TypeId} {v : Bool} (h : P.underlying t = some (.func ps rs v)) (f : Fn) (a b : Array Value) (w : World) : (binOp .neq t (.func f a b) .nilFunc).run P w = .ok (.bool true) w := by
  simp only [binOp]
  simp [Op.equal, Op.maxDepth, equalIn_func_nil h 9999]
theorem own_grown {β : Type} {B : Nat} {w : World} {row : Option Nat} (hB : w.heap.size ≤ B) : OwnFrom B (fun (_ : β) W => w.grownBy W row) := fun _ X Y r hs hg hr =>
  ⟨hg.os.trans hs.os, hg.tape.trans hs.tape, hg.output.trans hs.output, Nat.le_trans hs.size hg.size, fun k hk hne => (hg.block k (Nat.lt_of_lt_of_le hk hs.size) (fun e => by have := (hr k e.symm).1; omega)).trans (hs.block k hk hne)⟩
theorem below_of_grown {A B : World} (h : A.grownBy B none) : Below A.heap.size A B := ⟨h.os, h.tape, h.output, h.size, fun k hk => h.block k hk (by simp)⟩
theorem flatten_at9 {α : Type} : ∀ {cs : List (List α)} {i j : Nat} {c : List α}, (∀ x ∈ cs, x.length = 9) → cs[i]? = some c → j < 9 → cs.flatten[i * 9 + j]? = c[j]?
  | [], i, j, c, _, h, _ => by simp at h
  | a :: r, 0, j, c, hl, h, hj => by
    simp at h
    subst h
    have := hl a (by simp)
    rw [List.flatten_cons, List.getElem?_append_left (by omega)]
    simp
  | a :: r, i + 1, j, c, hl, h, hj => by
    have ha := hl a (by simp)
    rw [List.flatten_cons, List.getElem?_append_right (by omega), show (i + 1) * 9 + j - a.length = i * 9 + j by omega]
    exact flatten_at9 (fun x hx => hl x (by simp [hx])) (by simpa using h) hj
theorem walk_pos (v : Val) (d : Nat) : 0 < (walk d v).length := by
  obtain ⟨_, _, _, _, _, _⟩ := v
  rw [walk]
  simp

/-- A world that holds what A held. -/
structure Bel (A : World) where
  w : World
  h : Below A.heap.size A w
instance (A : World) : Nonempty (Bel A) := ⟨⟨A, Below.refl _ _⟩⟩
theorem Bel.cell {A : World} (r : Bel A) {b i : Nat} {v : Value} (hc : A.cell? ⟨b, i, none⟩ = some v) : r.w.cell? ⟨b, i, none⟩ = some v := (r.h.cell (World.block_lt_of_cell? _ _ hc)).trans hc

set_option maxRecDepth 100000 in
set_option maxHeartbeats 8000000 in
theorem walks_law {w : World} {v : Val} {u : Value} {st : Int} (ho : Ok w) (ht : Tame v) (h : HoldV w u v) (hs0 : 0 ≤ st) (hs1 : st ≤ 255) : Calls Tryd.prog 6 #[u, .int .u8 st] w fun e w' => e = .returned (.bool true) ∧ Below w.heap.size w w' := by
  obtain ⟨pk, ck, a, c, rfl⟩ := h.form
  have hA := new_of (new_of (World.alloc_heap_new w (.cells #[.int .i64 v.kind, .bool v.is, .bool v.num.neg, .string (txt v.num.dig), .int .i64 v.num.exp, .string (txt v.str), .slice pk v.keys.length ck, .slice a v.kids.length c] 27)) (.cells #[.int .u8 st] 5)) (.cells #[.bool false] 4)
  generalize v.kind = k0 at *
  generalize v.is = i0 at *
  generalize v.num = n0 at *
  generalize v.str = s0 at *
  generalize v.keys.length = lk at *
  generalize v.kids.length = lv at *
  obtain ⟨W, hW⟩ : ∃ W, ((w.alloc (.cells #[.int .i64 k0, .bool i0, .bool n0.neg, .string (txt n0.dig), .int .i64 n0.exp, .string (txt s0), .slice pk lk ck, .slice a lv c] 27)).alloc (.cells #[.int .u8 st] 5)).alloc (.cells #[.bool false] 4) = W := ⟨_, rfl⟩
  have bW : Below w.heap.size w W := by
    rw [← hW]
    exact (((Below.refl _ w).alloc (Nat.le_refl _) _).alloc (by simp) _).alloc (by simp; omega) _
  have hS := new_of (World.alloc_heap_new (w.alloc (.cells #[.int .i64 k0, .bool i0, .bool n0.neg, .string (txt n0.dig), .int .i64 n0.exp, .string (txt s0), .slice pk lk ck, .slice a lv c] 27)) (.cells #[.int .u8 st] 5)) (.cells #[.bool false] 4)
  have hR := World.alloc_heap_new ((w.alloc (.cells #[.int .i64 k0, .bool i0, .bool n0.neg, .string (txt n0.dig), .int .i64 n0.exp, .string (txt s0), .slice pk lk ck, .slice a lv c] 27)).alloc (.cells #[.int .u8 st] 5)) (.cells #[.bool false] 4)
  simp only [World.size_alloc] at hS hR
  rw [hW] at hA hS hR
  have HW := Lib.hid hW
  clear hW
  have hw := wakes_any (ho.below bW)
  have hgr := fun wx (hb : Below w.heap.size w wx) => rgreat_any (h.below hb)
  have hX : HoldX (· < w.heap.size) w _ v := h.x.mono fun g _ hg => hg
  refine (callsIn_wide (n := 5)).1 ?_
  refine callsIn_of_wp_marks Tryd.func6 rfl trivial ?_ rfl
  simp only [Tryd.ntmps6, List.size_toArray, List.length_cons, List.length_nil, Nat.reduceAdd, Nat.reduceSub, Array.replicate_succ, Array.replicate_zero, List.push_toArray, List.append_toArray, List.nil_append, List.cons_append]
  gi_wp2_with fail
  rw [HW.out]
  refine ⟨trivial, (callsIn_wide.2 hw).mono ?_⟩
  rintro e w1 ⟨rfl, k1⟩
  have b1 := bW.trans (k1.mono bW.size)
  have hA := (k1.block _ (lt_of_heap hA)).trans hA
  have hS := (k1.block _ (lt_of_heap hS)).trans hS
  have hR := (k1.block _ (lt_of_heap hR)).trans hR
  obtain ⟨c0, c1, c2, c3, c4, c5, c6, c7⟩ := eight hA
  gi_wp2_with fail
  refine ⟨trivial, (callsIn_wide.2 (hgr _ b1)).mono ?_⟩
  rintro e w2 ⟨⟨r, rfl, hr⟩, k2⟩
  have b2 := b1.trans (k2.mono b1.size)
  have hA := (k2.block _ (lt_of_heap hA)).trans hA
  have hS := (k2.block _ (lt_of_heap hS)).trans hS
  have hR := (k2.block _ (lt_of_heap hR)).trans hR
  have hrc := cell_of hR 0
  have hrf := free_of hR 0
  cases r with
  | true =>
    gi_wp2_with fail
    have hrc2 := World.cell?_setCell_same w2 ⟨w.heap.size + 1 + 1, 0, none⟩ (.bool true) hrc
    refine ⟨.bool true, by simp [results, Tryd.results6, go_sem, hrc2], rfl, b2.setCell (p := ⟨w.heap.size + 1 + 1, 0, none⟩) (by show w.heap.size ≤ w.heap.size + 1 + 1; omega) _⟩
  | false =>
    obtain ⟨hf, hcn⟩ := hr rfl
    have hm : Mild v := ⟨1, hf⟩
    have hcv := hcn ht
    have hcm : count v < 1000000 := by omega
    clear c0 c1 c2 c3 c4 c5 c6 c7 hr hf hcn hgr hw hcv
    obtain ⟨c0, c1, c2, c3, c4, c5, c6, c7⟩ := eight hA
    have W1 := rwalk_all v w2 _ 0 w.heap.size (by omega) b2.size (hX.below b2)
    gi_wp2_with fail
    refine ⟨trivial, (callsIn_wide.2 W1).mono ?_⟩
    rintro e w3 ⟨⟨y, css, rfl, hown, hsp⟩, k3⟩
    have b3 := b2.trans (k3.mono b2.size)
    have hA := (k3.block _ (lt_of_heap hA)).trans hA
    have hS := (k3.block _ (lt_of_heap hS)).trans hS
    have hR := (k3.block _ (lt_of_heap hR)).trans hR
    obtain ⟨gy, cy, rfl, hgy, hgyl, hycells⟩ := own_cells hown (walk_pos v 0)
    obtain ⟨N, hN⟩ : ∃ N, (walk 0 v).length = N := ⟨_, rfl⟩
    have hNc : N < 1000000 := by have := walk_len v 0; omega
    rw [hN] at hown ⊢
    have HN := Lib.hid hN
    clear hN
    have hA' := (new_of (new_of hA (.cells #[.slice (some ⟨gy, 0, none⟩) N cy] 39)) (.cells #[.int .i64 0] 3))
    have hS' := (new_of (new_of hS (.cells #[.slice (some ⟨gy, 0, none⟩) N cy] 39)) (.cells #[.int .i64 0] 3))
    have hR' := (new_of (new_of hR (.cells #[.slice (some ⟨gy, 0, none⟩) N cy] 39)) (.cells #[.int .i64 0] 3))
    have hY := new_of (World.alloc_heap_new w3 (.cells #[.slice (some ⟨gy, 0, none⟩) N cy] 39)) (.cells #[.int .i64 0] 3)
    have hI := World.alloc_heap_new (w3.alloc (.cells #[.slice (some ⟨gy, 0, none⟩) N cy] 39)) (.cells #[.int .i64 0] 3)
    rw [World.size_alloc] at hI
    obtain ⟨w4, hw4⟩ : ∃ w4, (w3.alloc (.cells #[.slice (some ⟨gy, 0, none⟩) N cy] 39)).alloc (.cells #[.int .i64 0] 3) = w4 := ⟨_, rfl⟩
    have b34 : Below w3.heap.size w3 w4 := by
      rw [← hw4]
      exact ((Below.refl _ w3).alloc (Nat.le_refl _) _).alloc (by simp) _
    have z4 : w4.heap.size = w3.heap.size + 2 := by rw [← hw4]; simp
    rw [hw4] at hA' hS' hR' hY hI
    have HW4 := Lib.hid hw4
    clear hw4 c0 c1 c2 c3 c4 c5 c6 c7
    obtain ⟨c0, c1, c2, c3, c4, c5, c6, c7⟩ := eight hA
    have lA := lt_of_heap hA
    have b4 := b3.trans (b34.mono b3.size)
    have T1 := twalk_any (ho.below b4) hm hcm b4.size (hX.below b4)
    rw [HN.out] at T1
    have hnn := fun lb => neq_func_nil Tryd.underlying42 (.func 36) #[] lb
    gi_wp2_with fail
    rw [HW4.out]
    refine ⟨trivial, (callsIn_wide.2 T1).mono ?_⟩
    rintro e w5 ⟨⟨lb, rfl, hseq⟩, k5⟩
    gi_wp2_with fail
    have hz5 := k5.size
    have b5 := b4.trans (k5.mono b4.size)
    have hA5 := (k5.block _ (lt_of_heap hA')).trans hA'
    have hS5 := (k5.block _ (lt_of_heap hS')).trans hS'
    have hR5 := (k5.block _ (lt_of_heap hR')).trans hR'
    have hY5 := (k5.block _ (lt_of_heap hY)).trans hY
    have hI5 := (k5.block _ (lt_of_heap hI)).trans hI
    have lwA := lt_of_heap hR5
    refine range_tells (n := 5) rfl (by omega) (gf := 36) (lb := lb) rfl trivial (enters_of Tryd.func36 (by kernel_rfl) rfl) hseq KeptT.trans (keptT_b b5.size)
      (fun pre x W l o o' _ hl ho he => he.put hl ho) (fun pre x A B hg ⟨y, hy, hx⟩ => ⟨y, hy, hx.below (below_of_grown hg)⟩) (fun A B hz hg => KeptT.of_below (below_of_grown hg) (Nat.le_trans b5.size hz))
      (Below.refl _ _) (fun _ => rfl)
      (fun pre A => Boxed A (w3.heap.size + 1) 3 (.int .i64 pre.length) ∧ w5.grownBy A (some (w3.heap.size + 1)) ∧ ((pre.length : Int) ≤ st ∧ pre.length ≤ N))
      (fun cd q A => Boxed A (w3.heap.size + 1) 3 (.int .i64 q.dropLast.length) ∧ w5.grownBy A (some (w3.heap.size + 1)) ∧ (cd = .exit 0 ∧ (q.dropLast.length : Int) = st ∧ q.dropLast.length ≤ N))
      (OwnFrom.and (Own.from (boxed_own (w3.heap.size + 1) 3 (fun pre : List (Nat × Value) => .int .i64 pre.length)) _) (OwnFrom.and (own_grown (Nat.le_refl _)) (ownFrom_pure _ (fun pre : List (Nat × Value) => (pre.length : Int) ≤ st ∧ pre.length ≤ N))))
      (fun cd => OwnFrom.and (Own.from (boxed_own (w3.heap.size + 1) 3 (fun q : List (Nat × Value) => .int .i64 q.dropLast.length)) _) (OwnFrom.and (own_grown (Nat.le_refl _)) (ownFrom_pure _ (fun q : List (Nat × Value) => cd = .exit 0 ∧ (q.dropLast.length : Int) = st ∧ q.dropLast.length ≤ N))))
      ⟨hI5, ⟨rfl, rfl, rfl, Nat.le_refl _, fun _ _ _ => rfl⟩, by simpa using hs0, by simp⟩
      (fun x b A => ∃ (X : Nat) (arr : Array Value), w5.heap.size ≤ X ∧ x.2 = .agg arr ∧ A.heap[X]? = some (.cells arr 27 (0, 0)) ∧ b = { tmps := #[.agg #[.int .i64 k0, .bool i0, .bool n0.neg, .string (txt n0.dig), .int .i64 n0.exp, .string (txt s0), .slice pk lk ck, .slice a lv c], .int .u8 st, .pointer (some ⟨w.heap.size, 0, none⟩), .pointer (some ⟨w.heap.size + 1, 0, none⟩), .pointer (some ⟨w.heap.size + 1 + 1, 0, none⟩), .pointer (some ⟨w3.heap.size, 0, none⟩), .pointer (some ⟨w3.heap.size + 1, 0, none⟩), .func (.func 36) #[] lb, .int .i64 x.1, .pointer (some ⟨X, 0, none⟩), .bool true, .bool false, .agg #[.int .i64 k0, .bool i0, .bool n0.neg, .string (txt n0.dig), .int .i64 n0.exp, .string (txt s0), .slice pk lk ck, .slice a lv c], .bool false, .agg #[.int .i64 k0, .bool i0, .bool n0.neg, .string (txt n0.dig), .int .i64 n0.exp, .string (txt s0), .slice pk lk ck, .slice a lv c], .slice (some ⟨gy, 0, none⟩) N cy, .agg #[.int .i64 k0, .bool i0, .bool n0.neg, .string (txt n0.dig), .int .i64 n0.exp, .string (txt s0), .slice pk lk ck, .slice a lv c], .func (.func 36) #[] lb, .func (.func 36) #[] lb, .bool true, .func (.func 36) #[] lb, .int .i64 x.1, x.2, undef, undef, undef, undef, undef, undef, undef, undef, undef, undef, undef, undef, undef, undef, undef, undef, undef, undef, undef, undef, undef, undef, undef, undef, undef, undef, undef, undef, undef, undef, undef, undef, undef, undef, undef, undef], defers := [] })
      (fun x b A l o o' _ hl ho ⟨X, arr, h1, h2, h3, h4⟩ => ⟨X, arr, h1, h2, (World.putObj_heap_other (fun e => by subst e; rw [h3] at hl; cases hl; cases ho)).trans h3, h4⟩) ?assign ?body ?done ?stop
    case assign =>
      intro l pre x A K he hi hK
      obtain ⟨d, u⟩ := x
      obtain ⟨yv, hy, hx⟩ := he
      obtain ⟨pz, cz, az, dz, rfl⟩ := hx.form
      simp [encsW]
      gi_wp2
      exact hK _ _ (World.grownBy_alloc A _ none) ⟨A.heap.size, _, hi.2.1.size, rfl, World.alloc_heap_new A _, rfl⟩
    case body =>
      rintro l pre x A b ⟨hB, hG, hst, hle⟩ he ⟨X, arr, hX1, hx2, hX3, rfl⟩ hlt
      obtain ⟨d, u⟩ := x
      obtain ⟨yv, hy, hx⟩ := he
      dsimp only at hx hx2 hy
      obtain ⟨pz, cz, az, dz, hu⟩ := hx.form
      rw [hx2] at hu
      injection hu with hu
      subst hu
      subst hx2
      have hcn := hB.cell
      have hfn := hB.frozen
      have hS6 := (hG.block _ (lt_of_heap hS5) (by intro e; injection e with e; have := lt_of_heap hS; omega)).trans hS5
      have hcs := cell_of hS6 0
      have wst : IntKind.i64.wrap st = st := by simp only [IntKind.wrap, IntKind.signed, IntKind.bits]; simp; omega
      dsimp only
      by_cases hm : st ≤ (pre.length : Int)
      · gi_wp2
        exact ⟨KeepsFrom.refl _ _, by simpa using hB, hG, rfl, by simp; omega, by simpa using hle⟩
      · have hm' : decide (st ≤ (pre.length : Int)) = false := by simp; omega
        have hYA := (hG.block _ (lt_of_heap hY5) (by simp)).trans hY5
        have hcy := cell_of hYA 0
        have hgA : A.heap[gy]? = w3.heap[gy]? := (hG.block gy (by omega) (by intro e; injection e with e; omega)).trans ((k5.block gy (by omega)).trans (b34.block gy hgyl))
        have hwk : pre.length < (walk 0 v).length := by rw [HN.out]; exact hlt
        have hcss : pre.length < css.length := by rw [hsp.1]; exact hwk
        obtain ⟨cs, hc9, hcP⟩ := hsp.2 pre.length css[pre.length] (d, yv) (List.getElem?_eq_getElem hcss) hy
        have hV : HoldV w3 (.agg cs.toArray) yv := ⟨cs, rfl, HoldP.hold yv hcP⟩
        obtain ⟨pe, ce, ae, de, he9⟩ := hV.form
        injection he9 with he9
        have hcs9 : cs = [.int .i64 yv.kind, .bool yv.is, .bool yv.num.neg, .string (txt yv.num.dig), .int .i64 yv.num.exp, .string (txt yv.str), .slice pe yv.keys.length ce, .slice ae yv.kids.length de] := by simpa using congrArg Array.toList he9
        rw [hcs9] at hc9 hV
        have hAw := b5.trans (show Below w.heap.size w5 A from ⟨hG.os, hG.tape, hG.output, hG.size, fun k hk => hG.block k (by have := b5.size; omega) (by intro e; injection e with e; have := b3.size; omega)⟩)
        have hcell : ∀ j x, css[pre.length][j]? = some x → j < 9 → A.cell? ⟨gy, pre.length * 9 + j, none⟩ = some x := fun j x hx hj => by
          have h1 := hycells (pre.length * 9 + j) x (by rw [flatten_at9 hsp.sizes.1 (List.getElem?_eq_getElem hcss) hj]; exact hx)
          rw [Addr.add_lit, Nat.zero_add] at h1
          exact cell_keep h1 hgA
        rw [hc9] at hcell
        have y0 := hcell 0 _ rfl (by decide)
        have y1 := hcell 1 _ rfl (by decide)
        have y2 := hcell 2 _ rfl (by decide)
        have y3 := hcell 3 _ rfl (by decide)
        have y4 := hcell 4 _ rfl (by decide)
        have y5 := hcell 5 _ rfl (by decide)
        have y6 := hcell 6 _ rfl (by decide)
        have y7 := hcell 7 _ rfl (by decide)
        have y8 := hcell 8 _ rfl (by decide)
        simp only [Nat.add_zero] at y0
        have hV3 : HoldX (· < w.heap.size) w3 (.agg #[.int .i64 yv.kind, .bool yv.is, .bool yv.num.neg, .string (txt yv.num.dig), .int .i64 yv.num.exp, .string (txt yv.str), .slice pe yv.keys.length ce, .slice ae yv.kids.length de]) yv := ⟨cs, by rw [hcs9], hcP⟩
        have hVA : HoldV A (.agg #[.int .i64 yv.kind, .bool yv.is, .bool yv.num.neg, .string (txt yv.num.dig), .int .i64 yv.num.exp, .string (txt yv.str), .slice pe yv.keys.length ce, .slice ae yv.kids.length de]) yv :=
          (hV3.keep (Nat.le_trans (Nat.le_trans b34.size hz5) hG.size) fun g hg _ => (hAw.block g hg).trans (b3.block g hg).symm).hold
        have SAME := fun wx (hb : Below A.heap.size A wx) => tells_true (rsame_any yv yv wx _ _ (hx.below hb) (hVA.below hb)) rfl
        clear hcell hc9 hcs9 he9 hV hV3 hcP hwk hseq hycells hown hy hVA hx hA hS hR hY hI hA' hS' hR' T1 W1
        obtain ⟨x0, x1, x2, x3, x4, x5, x6, x7⟩ := eight hX3
        have hlt1 : (pre.length : Int) < (N : Int) := by omega
        have hlt2 : decide ((N : Int) ≤ (pre.length : Int)) = false := by simp; omega
        have hlt3 : decide (N ≤ pre.length) = false := by simp; omega
        have hmo : Tryd.prog.follows .mixedOrders = true := by kernel_rfl
        generalize yv.kind = k9 at *
        generalize yv.is = i9 at *
        generalize yv.num = n9 at *
        generalize yv.str = s9 at *
        generalize yv.keys.length = lk9 at *
        generalize yv.kids.length = lv9 at *
        gi_wp2_with fail
        have q0 : ∀ r : Bel A, r.w.cell? ⟨w3.heap.size + 1, 0, none⟩ = some (.int .i64 pre.length) := fun r => r.cell hcn
        have q1 : ∀ r : Bel A, r.w.cell? ⟨w3.heap.size, 0, none⟩ = some (.slice (some ⟨gy, 0, none⟩) N cy) := fun r => r.cell hcy
        have qy0 := fun r : Bel A => r.cell y0
        have qy1 := fun r : Bel A => r.cell y1
        have qy2 := fun r : Bel A => r.cell y2
        have qy3 := fun r : Bel A => r.cell y3
        have qy4 := fun r : Bel A => r.cell y4
        have qy5 := fun r : Bel A => r.cell y5
        have qy6 := fun r : Bel A => r.cell y6
        have qy7 := fun r : Bel A => r.cell y7
        have qy8 := fun r : Bel A => r.cell y8
        have qx0 := fun r : Bel A => r.cell x0
        have qx1 := fun r : Bel A => r.cell x1
        have qx2 := fun r : Bel A => r.cell x2
        have qx3 := fun r : Bel A => r.cell x3
        have qx4 := fun r : Bel A => r.cell x4
        have qx5 := fun r : Bel A => r.cell x5
        have qx6 := fun r : Bel A => r.cell x6
        have qx7 := fun r : Bel A => r.cell x7
        have hsame : ∀ r : Bel A, Calls Tryd.prog 15 #[.agg #[.int .i64 k9, .bool i9, .bool n9.neg, .string (txt n9.dig), .int .i64 n9.exp, .string (txt s9), .slice pz lk9 cz, .slice az lv9 dz], .agg #[.int .i64 k9, .bool i9, .bool n9.neg, .string (txt n9.dig), .int .i64 n9.exp, .string (txt s9), .slice pe lk9 ce, .slice ae lv9 de]] r.w fun e w' => e = .returned (.bool true) ∧ ∃ r' : Bel A, w' = r'.w := fun r => (SAME r.w r.h).mono fun e w' ⟨he, hk⟩ => ⟨he, ⟨w', r.h.trans (hk.mono r.h.size)⟩, rfl⟩
        have HSM := Lib.hid hsame
        clear SAME hsame
        have hfw : Fence.wide.fn 15 := trivial
        refine region_round (C := fun wx => ∃ r : Bel A, wx = r.w) (by kernel_rfl) hmo (by kernel_rfl) ⟨⟨A.drew, below_drewN (Below.refl _ _) 1⟩, rfl⟩ ?_
        repeat (first
          | gi_big_quiet_skip
          | (gi_big_quiet_want; gi_big_quiet_op; go_big_quiet_on))
        gi_big_quiet_want
        gi_big_quiet_op
        gi_big_quiet_call (exact CallsIn.inRound l (callsIn_wide.2 (HSM.out _)))
        repeat (first
          | gi_big_quiet_skip
          | (gi_big_quiet_want; gi_big_quiet_op; go_big_quiet_on))
        refine wpQuietIn_nil ?_
        rintro wx ⟨r, rfl⟩
        have hcr := r.cell hcn
        have hBr : Boxed r.w (w3.heap.size + 1) 3 (.int .i64 pre.length) := (r.h.block _ hB.lt).trans hB
        have hfr := hBr.frozen
        have wpl : IntKind.i64.wrap ((pre.length : Int) + 1) = (pre.length : Int) + 1 := by simp only [IntKind.wrap, IntKind.signed, IntKind.bits]; simp; omega
        clear q0 q1 qy0 qy1 qy2 qy3 qy4 qy5 qy6 qy7 qy8 qx0 qx1 qx2 qx3 qx4 qx5 qx6 qx7
        gi_wp2
        have hgr : A.grownBy (r.w.setCell ⟨w3.heap.size + 1, 0, none⟩ (.int .i64 ((pre.length : Int) + 1))) (some (w3.heap.size + 1)) :=
          World.grownBy.trans (b := r.w) ⟨r.h.os, r.h.tape, r.h.output, r.h.size, fun k hk _ => r.h.block k hk⟩ (grownBy_setCell' r.w (w3.heap.size + 1) _)
        have hzA : w.heap.size ≤ A.heap.size := Nat.le_trans b5.size hG.size
        refine ⟨KeepsFrom.of_grownBy hgr (fun j e => by injection e with e; omega), ⟨(r.h.mono hzA).setCell (p := ⟨w3.heap.size + 1, 0, none⟩) (by show w.heap.size ≤ w3.heap.size + 1; have := b3.size; omega) _, fun k o hk h1 _ => (Below.heap_setCell _ _ _ k (fun e => by have : k = w3.heap.size + 1 := e; omega)).trans ((r.h.block k (Array.getElem?_eq_some_iff.1 h1).1).trans h1)⟩, ?_, World.grownBy.trans hG hgr, by simp; omega, by simp; omega⟩
        have := hBr.set (.int .i64 ((pre.length : Int) + 1))
        simpa using this
    case done =>
      rintro D xs A hD hxs ⟨hB, hG, hst, hle⟩ hK
      have hcn := hB.cell
      have hS6 := (hG.block _ (lt_of_heap hS5) (by intro e; injection e with e; have := lt_of_heap hS; omega)).trans hS5
      have hcs := cell_of hS6 0
      have hR6 := (hG.block _ (lt_of_heap hR5) (by intro e; injection e with e; have := lt_of_heap hR; omega)).trans hR5
      have hcr := cell_of hR6 0
      have hfr := free_of hR6 0
      have hYA := (hG.block _ (lt_of_heap hY5) (by simp)).trans hY5
      have hcy := cell_of hYA 0
      have wst : IntKind.i64.wrap st = st := by simp only [IntKind.wrap, IntKind.signed, IntKind.bits]; simp; omega
      have hxs : xs.length = N := hxs
      have hAw := b5.trans (show Below w.heap.size w5 A from ⟨hG.os, hG.tape, hG.output, hG.size, fun k hk => hG.block k (by have := b5.size; omega) (by intro e; injection e with e; have := b3.size; omega)⟩)
      have hRD : w.heap.size + 1 + 1 < D := by omega
      have hres : ∀ b : Value, ((A.setCell ⟨w.heap.size + 1 + 1, 0, none⟩ b).putObj D (.deferred none)).cell? ⟨w.heap.size + 1 + 1, 0, none⟩ = some b := fun b => cell_keep (World.cell?_setCell_same A ⟨w.heap.size + 1 + 1, 0, none⟩ b hcr) (World.putObj_heap_other (by omega))
      have hK2 : ∀ b : Value, (A.setCell ⟨w.heap.size + 1 + 1, 0, none⟩ b).heap[D]? = some (.deferred (some [])) := fun b => (Below.heap_setCell _ _ _ D (fun e => by have : D = w.heap.size + 1 + 1 := e; omega)).trans hK
      have hbe : ∀ b : Value, Below w.heap.size w ((A.setCell ⟨w.heap.size + 1 + 1, 0, none⟩ b).putObj D (.deferred none)) := fun b => (hAw.setCell (p := ⟨w.heap.size + 1 + 1, 0, none⟩) (by show w.heap.size ≤ w.heap.size + 1 + 1; omega) b).trans (belowK_b (w := w) (Nat.le_refl _) _ D _ _ (by omega) (hK2 b) rfl rfl)
      gi_wp2
      all_goals
        refine ⟨by simp, .inl ⟨_, _, rfl, run_takeDeferred (hK2 _), ?_⟩⟩
        refine ⟨.bool true, ?_, rfl, hbe _⟩
        simp [results, Tryd.results6, go_sem, hres]
        try omega
    case stop =>
      rintro D cd q A hD hxs ⟨hB, hG, rfl, hst, hle⟩ hK
      have hcn := hB.cell
      have hS6 := (hG.block _ (lt_of_heap hS5) (by intro e; injection e with e; have := lt_of_heap hS; omega)).trans hS5
      have hcs := cell_of hS6 0
      have hR6 := (hG.block _ (lt_of_heap hR5) (by intro e; injection e with e; have := lt_of_heap hR; omega)).trans hR5
      have hcr := cell_of hR6 0
      have hfr := free_of hR6 0
      have hYA := (hG.block _ (lt_of_heap hY5) (by simp)).trans hY5
      have hcy := cell_of hYA 0
      have wst : IntKind.i64.wrap st = st := by simp only [IntKind.wrap, IntKind.signed, IntKind.bits]; simp; omega
      generalize q.dropLast.length = ql at *
      have hAw := b5.trans (show Below w.heap.size w5 A from ⟨hG.os, hG.tape, hG.output, hG.size, fun k hk => hG.block k (by have := b5.size; omega) (by intro e; injection e with e; have := b3.size; omega)⟩)
      have hRD : w.heap.size + 1 + 1 < D := by omega
      have hres : ∀ b : Value, ((A.setCell ⟨w.heap.size + 1 + 1, 0, none⟩ b).putObj D (.deferred none)).cell? ⟨w.heap.size + 1 + 1, 0, none⟩ = some b := fun b => cell_keep (World.cell?_setCell_same A ⟨w.heap.size + 1 + 1, 0, none⟩ b hcr) (World.putObj_heap_other (by omega))
      have hK2 : ∀ b : Value, (A.setCell ⟨w.heap.size + 1 + 1, 0, none⟩ b).heap[D]? = some (.deferred (some [])) := fun b => (Below.heap_setCell _ _ _ D (fun e => by have : D = w.heap.size + 1 + 1 := e; omega)).trans hK
      have hbe : ∀ b : Value, Below w.heap.size w ((A.setCell ⟨w.heap.size + 1 + 1, 0, none⟩ b).putObj D (.deferred none)) := fun b => (hAw.setCell (p := ⟨w.heap.size + 1 + 1, 0, none⟩) (by show w.heap.size ≤ w.heap.size + 1 + 1; omega) b).trans (belowK_b (w := w) (Nat.le_refl _) _ D _ _ (by omega) (hK2 b) rfl rfl)
      gi_wp2
      all_goals
        refine ⟨by simp, .inl ⟨_, _, rfl, run_takeDeferred (hK2 _), ?_⟩⟩
        refine ⟨.bool true, ?_, rfl, hbe _⟩
        simp [results, Tryd.results6, go_sem, hres]
        try omega
end Go.Proofs.YtjekannajnkejaaDoor.Tre
