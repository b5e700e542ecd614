/- The contract of the document's own answer for layer 8 (package tabulariumref08): Walk. What an iterator over a value tells (words for the contract of package tree's Walk). Nothing is claimed here. -/
import Derived.Test.YtjekannajnkejaaDoorTreeSortA
import Derived.Test.YtjekannajnkejaaDoorTells
import Derived.Test.YtjekannajnkejaaDoorTreeShape
namespace Go.Proofs.YtjekannajnkejaaDoor.Tre
open Go.RowKit Kit Txt
open Num (Dec zero)

theorem infoSpot : (Tryd.prog.info? 45).map (fun i => (i.zero, i.size, i.bytes)) = some (some (.agg #[.int .i64 0, .int .i64 0, .bool false, .bool false, .string ⟨#[]⟩, .int .i64 0, .string ⟨#[]⟩, .slice none 0 0, .slice none 0 0]), 9, 120) := by kernel_rfl
def zeroS : Value := .agg #[.int .i64 0, .int .i64 0, .bool false, .bool false, .string ⟨#[]⟩, .int .i64 0, .string ⟨#[]⟩, .slice none 0 0, .slice none 0 0]
theorem own_mono {w : World} {b b' : Nat} {e : TypeId} {z n : Nat} {v : Value} {xs : List Value} (h : w.ownsRow b e z v n xs) (hb : b' ≤ b) : w.ownsRow b' e z v n xs :=
  ⟨h.1, h.2.imp id fun ⟨g, cap, cur, h1, h2, h3⟩ => ⟨g, cap, cur, h1, Nat.le_trans hb h2, h3⟩⟩
theorem own_under {w w' : World} {b : Nat} {e : TypeId} {z n : Nat} {v : Value} {xs : List Value} (h : w.ownsRow b e z v n xs) (k : Below w.heap.size w w') : w'.ownsRow b e z v n xs := by
  refine World.ownsRow.kept h (row := none) ⟨k.os, k.tape, k.output, k.size, fun i hi _ => k.block i hi⟩ ?_
  cases v.ownBlock with
  | none => exact .inl rfl
  | some g => exact .inr (by simp)
/-- The cells of a row that isn't empty. -/
theorem own_cells {w : World} {b : Nat} {e : TypeId} {z n : Nat} {v : Value} {xs : List Value} (h : w.ownsRow b e z v n xs) (hn : 0 < n) : ∃ g c, v = .slice (some ⟨g, 0, none⟩) n c ∧ b ≤ g ∧ g < w.heap.size ∧ ∀ j u, xs[j]? = some u → w.cell? ((⟨g, 0, none⟩ : Addr).add j) = some u := by
  rcases h.2 with ⟨_, h0⟩ | ⟨g, cap, cur, rfl, hg, hb, _, _, _, htk⟩
  · omega
  · refine ⟨g, cap, rfl, hg, lt_of_heap hb, fun j u hj => ?_⟩
    rw [← htk, List.getElem?_take] at hj
    split at hj
    · rw [addr_at, cell_of hb, ← Array.getElem?_toList]
      exact hj
    · cases hj
/-- The cells of values and how deep they lie, as they are held in a world, in blocks below B. -/
def Spots (B : Nat) (w : World) (css : List (List Value)) (l : List (Nat × Val)) : Prop :=
  css.length = l.length ∧ ∀ (i : Nat) (c : List Value) (x : Nat × Val), css[i]? = some c → l[i]? = some x → ∃ cs, c = .int .i64 (x.1 : Int) :: cs ∧ HoldP (· < B) w cs x.2
theorem Spots.keep {B : Nat} {w w' : World} {a : List (List Value)} {l : List (Nat × Val)} (h : Spots B w a l) (hz : w.heap.size ≤ w'.heap.size) (hk : ∀ g, g < B → g < w.heap.size → w'.heap[g]? = w.heap[g]?) : Spots B w' a l := by
  refine ⟨h.1, fun i c x h1 h2 => ?_⟩
  obtain ⟨cs, e, hc⟩ := h.2 i c x h1 h2
  exact ⟨cs, e, HoldP.keep hz hk _ hc⟩
theorem Spots.append {B : Nat} {w : World} {a b : List (List Value)} {l m : List (Nat × Val)} (h : Spots B w a l) (k : Spots B w b m) : Spots B w (a ++ b) (l ++ m) := by
  refine ⟨by rw [List.length_append, List.length_append, h.1, k.1], fun i c x h1 h2 => ?_⟩
  by_cases hi : i < a.length
  · rw [List.getElem?_append_left hi] at h1
    rw [List.getElem?_append_left (by rw [← h.1]; exact hi)] at h2
    exact h.2 i c x h1 h2
  · rw [List.getElem?_append_right (by omega)] at h1
    rw [List.getElem?_append_right (by rw [← h.1]; omega), ← h.1] at h2
    exact k.2 _ c x h1 h2
theorem Spots.sizes {B : Nat} {w : World} {css : List (List Value)} {l : List (Nat × Val)} (h : Spots B w css l) : (∀ c ∈ css, c.length = 9) ∧ ∀ c ∈ css, ∀ u ∈ c, u.oneCell' = true := by
  have hh : ∀ c ∈ css, ∃ (d : Int) (cs : List Value) (v : Val), c = .int .i64 d :: cs ∧ HoldP (· < B) w cs v := fun c hc => by
    obtain ⟨i, hi, e⟩ := List.mem_iff_getElem.1 hc
    obtain ⟨cs, h1, h2⟩ := h.2 i c (l[i]'(by rw [← h.1]; exact hi)) (by rw [List.getElem?_eq_getElem hi, e]) (List.getElem?_eq_getElem _)
    exact ⟨_, cs, _, h1, h2⟩
  constructor
  · intro c hc
    obtain ⟨d, cs, v, rfl, h2⟩ := hh c hc
    rw [List.length_cons, holdP_len h2]
  · intro c hc u hu
    obtain ⟨d, cs, v, rfl, h2⟩ := hh c hc
    rcases List.mem_cons.1 hu with rfl | hu
    · rfl
    · exact holdP_one h2 u hu
theorem flatten_len9 {α : Type} : ∀ {cs : List (List α)}, (∀ c ∈ cs, c.length = 9) → cs.flatten.length = cs.length * 9
  | [], _ => rfl
  | c :: r, h => by
    rw [List.flatten_cons, List.length_append, h c (by simp), flatten_len9 (fun x hx => h x (by simp [hx])), List.length_cons]
    omega
theorem walks_snoc (d : Nat) : ∀ (a : List Val) (v : Val), walks d (a ++ [v]) = walks d a ++ walk d v
  | [], v => by simp [walks]
  | x :: a, v => by rw [List.cons_append, walks, walks, walks_snoc d a v, List.append_assoc]
mutual
theorem walk_len : ∀ (v : Val) (d : Nat), (walk d v).length ≤ count v
  | ⟨k, i, n, s, ks, vs⟩, d => by
    rw [walk, count, List.length_cons]
    have := walks_len vs (d + 1)
    omega
theorem walks_len : ∀ (vs : List Val) (d : Nat), (walks d vs).length ≤ counts vs
  | [], _ => Nat.zero_le _
  | v :: r, d => by
    rw [walks, counts, List.length_append]
    have := walk_len v d
    have := walks_len r d
    omega
end

theorem HoldsP.at {X : Nat → Prop} {w : World} {g : Nat} : ∀ {vs : List Val} {off : Nat}, HoldsP X w g off vs → ∀ {i : Nat} {v : Val}, vs[i]? = some v → ∃ cs, At8 w g (off + i * 8) cs ∧ HoldP X w cs v
  | [], _, _, _, _, hi => by simp at hi
  | x :: r, off, h, 0, v, hi => by
    rw [HoldsP] at h
    simp at hi
    subst hi
    simpa using h.1
  | x :: r, off, h, i + 1, v, hi => by
    rw [HoldsP] at h
    have := HoldsP.at h.2 (i := i) (v := v) (by simpa using hi)
    rwa [show off + (i + 1) * 8 = off + 8 + i * 8 by omega]
theorem take_snoc {vs : List Val} {j : Nat} (h : j < vs.length) (d : Nat) : walks d (vs.take (j + 1)) = walks d (vs.take j) ++ walk d vs[j] := by
  rw [List.take_succ_eq_append_getElem h, walks_snoc]
theorem counts_take (vs : List Val) : ∀ j, counts (vs.take j) ≤ counts vs := by
  induction vs with
  | nil => intro j; simp
  | cons v r ih =>
    intro j
    cases j with
    | zero => exact Nat.zero_le _
    | succ j =>
      rw [List.take_succ_cons, counts, counts]
      have := ih j
      omega

/-- A value by its cells, all its memory in blocks below B. -/
def HoldU (B : Nat) (w : World) (u : Value) (v : Val) : Prop := ∃ cs : List Value, u = .agg cs.toArray ∧ HoldP (· < B) w cs v
theorem HoldU.of {w : World} {u : Value} {v : Val} (h : HoldV w u v) : HoldU w.heap.size w u v := by
  obtain ⟨cs, hu, hc⟩ := h
  exact ⟨cs, hu, HoldP.mono (fun g _ hlt => hlt) v (HoldP.of v hc)⟩

set_option maxRecDepth 100000 in
set_option maxHeartbeats 8000000 in
theorem rwalk_all : ∀ (v : Val) (w : World) (u : Value) (d B : Nat), d + count v < 1000000 → B ≤ w.heap.size → HoldU B w u v → Calls Tryd.prog 23 #[u, .int .i64 (d : Int)] w fun e w' =>
    (∃ y css, e = .returned y ∧ w'.ownsRow w.heap.size 45 9 y (walk d v).length css.flatten ∧ Spots B w' css (walk d v)) ∧ Below w.heap.size w w' := by
  refine ind1 fun v ih w u d B hc0 hBw h => ?_
  have hck := count_kids (v := v)
  have hself : ∃ cs : List Value, u = .agg cs.toArray ∧ HoldP (· < B) w cs v := h
  have hcv : ∀ j, (walks (d + 1) (v.kids.take j)).length + 1 ≤ count v := fun j => by
    obtain ⟨k, b, n, s, ks, vs⟩ := v
    have h1 := walks_len ((Val.mk k b n s ks vs).kids.take j) (d + 1)
    have h2 := counts_take (Val.mk k b n s ks vs).kids j
    rw [count]
    unfold Val.kids at *
    dsimp only at *
    omega
  have hwv : walk d v = (d, v) :: walks (d + 1) v.kids := by
    obtain ⟨k, b, n, s, ks, vs⟩ := v
    rw [walk]
    rfl
  rw [hwv]
  generalize count v = cv at *
  clear hwv
  obtain ⟨k, b, n, s, ks, vs⟩ := v
  obtain ⟨cs, rfl, hc⟩ := h
  have hc2 := hc
  rw [HoldP] at hc2
  obtain ⟨uk, a, c, rfl, hk, hcap, hmax, hv⟩ := hc2
  obtain ⟨pk, ck, rfl, -, -, -⟩ := hk
  unfold Val.kids at ih hck hcv ⊢
  dsimp only at ih hck hcv ⊢
  show Calls Tryd.prog 23 #[.agg #[.int .i64 k, .bool b, .bool n.neg, .string (txt n.dig), .int .i64 n.exp, .string (txt s), .slice pk ks.length ck, .slice a vs.length c], .int .i64 (d : Int)] w _
  have hA := World.alloc_heap_new w (.cells #[.int .i64 k, .bool b, .bool n.neg, .string (txt n.dig), .int .i64 n.exp, .string (txt s), .slice pk ks.length ck, .slice a vs.length c] 27)
  have bA : Below w.heap.size w (w.alloc (.cells #[.int .i64 k, .bool b, .bool n.neg, .string (txt n.dig), .int .i64 n.exp, .string (txt s), .slice pk ks.length ck, .slice a vs.length c] 27)) := (Below.refl _ w).alloc (Nat.le_refl _) _
  obtain ⟨i0, hi0, hz0, hz1, hz2⟩ := info_parts infoSpot
  obtain ⟨w1, hw1⟩ : ∃ w1, (w.alloc (.cells #[.int .i64 k, .bool b, .bool n.neg, .string (txt n.dig), .int .i64 n.exp, .string (txt s), .slice pk ks.length ck, .slice a vs.length c] 27)).alloc (.cells #[.int .i64 (d : Int), .int .i64 k, .bool b, .bool n.neg, .string (txt n.dig), .int .i64 n.exp, .string (txt s), .slice pk ks.length ck, .slice a vs.length c] 45) = w1 := ⟨_, rfl⟩
  have hz : w1.heap.size = w.heap.size + 2 := by rw [← hw1]; simp
  have hA1 : w1.heap[w.heap.size]? = some (.cells #[.int .i64 k, .bool b, .bool n.neg, .string (txt n.dig), .int .i64 n.exp, .string (txt s), .slice pk ks.length ck, .slice a vs.length c] 27 (0, 0)) := by rw [← hw1]; exact new_of hA _
  have hS1 : w1.heap[w.heap.size + 1]? = some (.cells #[.int .i64 (d : Int), .int .i64 k, .bool b, .bool n.neg, .string (txt n.dig), .int .i64 n.exp, .string (txt s), .slice pk ks.length ck, .slice a vs.length c] 45 (0, 0)) := by
    rw [← hw1]
    have := World.alloc_heap_new (w.alloc (.cells #[.int .i64 k, .bool b, .bool n.neg, .string (txt n.dig), .int .i64 n.exp, .string (txt s), .slice pk ks.length ck, .slice a vs.length c] 27)) (.cells #[.int .i64 (d : Int), .int .i64 k, .bool b, .bool n.neg, .string (txt n.dig), .int .i64 n.exp, .string (txt s), .slice pk ks.length ck, .slice a vs.length c] 45)
    rwa [World.size_alloc] at this
  have b1 : Below w.heap.size w w1 := by rw [← hw1]; exact bA.alloc (by simp) _
  have hown1 : w1.ownsRow (w.heap.size + 1) 45 9 (.slice (some ⟨w.heap.size + 1, 0, none⟩) 1 1) 1 [.int .i64 (d : Int), .int .i64 k, .bool b, .bool n.neg, .string (txt n.dig), .int .i64 n.exp, .string (txt s), .slice pk ks.length ck, .slice a vs.length c] := ⟨rfl, .inr ⟨w.heap.size + 1, 1, _, rfl, Nat.le_refl _, hS1, Nat.le_refl _, by decide, rfl, rfl⟩⟩
  have hc8 := hself
  obtain ⟨cs0, e0, hh0⟩ := hself
  have e0' : [.int .i64 k, .bool b, .bool n.neg, .string (txt n.dig), .int .i64 n.exp, .string (txt s), .slice pk ks.length ck, .slice a vs.length c] = cs0 := by
    have := congrArg (fun v : Value => match v with | .agg x => x.toList | _ => []) e0
    simpa [cellsV] using this
  subst e0'
  have hsp1 : Spots B w [[.int .i64 (d : Int), .int .i64 k, .bool b, .bool n.neg, .string (txt n.dig), .int .i64 n.exp, .string (txt s), .slice pk ks.length ck, .slice a vs.length c]] [(d, ⟨k, b, n, s, ks, vs⟩)] := ⟨rfl, fun i c x h1 h2 => by
    match i with
    | 0 =>
      simp at h1 h2
      subst h1; subst h2
      exact ⟨_, rfl, hh0⟩
    | i + 1 => simp at h1⟩
  have HW := Lib.hid hw1
  have HSP := Lib.hid hsp1
  clear hw1 hA bA hsp1 hc hc8 e0 hh0
  go_enter Tryd.func23, Tryd.ntmps23
  go_wp2_with fail
  rw [HW.out]
  go_loopw [5, 6] (fun x y wr => ∃ (j : Nat) (css : List (List Value)), j ≤ vs.length ∧ y = .int .i64 (j : Int) ∧ wr.ownsRow (w.heap.size + 1) 45 9 x (1 + (walks (d + 1) (vs.take j)).length) css.flatten ∧ Spots B wr css ((d, ⟨k, b, n, s, ks, vs⟩) :: walks (d + 1) (vs.take j)) ∧
      wr.heap[w.heap.size]? = some (.cells #[.int .i64 k, .bool b, .bool n.neg, .string (txt n.dig), .int .i64 n.exp, .string (txt s), .slice pk ks.length ck, .slice a vs.length c] 27 (0, 0)) ∧ Below w.heap.size w wr ∧ w.heap.size + 2 ≤ wr.heap.size) (fun _ y _ => vs.length - (intOf y).toNat)
  case atStart => exact ⟨0, [[.int .i64 (d : Int), .int .i64 k, .bool b, .bool n.neg, .string (txt n.dig), .int .i64 n.exp, .string (txt s), .slice pk ks.length ck, .slice a vs.length c]], Nat.zero_le _, rfl, by rw [List.take_zero, walks]; simpa using hown1, by rw [List.take_zero, walks]; exact HSP.out.keep b1.size (fun g hg hlt => b1.block g hlt), hA1, b1, by omega⟩
  case round =>
    clear hA1 hS1 b1 hz hown1 HW HSP
    obtain ⟨j, css, hj, rfl, hown, hsp, hA, bB, hz⟩ := hrel
    have HS := Lib.hid hsp
    clear hsp
    obtain ⟨-, -, -, -, -, -, -, p7⟩ := eight hA
    have hcvj := hcv j
    by_cases hlt : j < vs.length
    · have hlt' : (j : Int) < (vs.length : Int) := by omega
      have hcvj1 := hcv (j + 1)
      rcases hv with rfl | ⟨g, off, rfl, hgB, hg, hx⟩
      · exact absurd hlt (Nat.not_lt_zero _)
      obtain ⟨cx, hx8, hxx⟩ := hx.at (List.getElem?_eq_getElem hlt)
      have hcall := fun wx u (hz : B ≤ wx.heap.size) (h : HoldU B wx u (vs[j]'hlt)) => ih (vs[j]'hlt) (List.getElem_mem hlt) wx u (d + 1) B (by have := hck.2 _ (List.getElem_mem hlt); omega) hz h
      rw [take_snoc hlt, List.length_append] at hcvj1
      have hts := take_snoc hlt (d + 1)
      have hpos : 0 < (walk (d + 1) vs[j]).length := by
        cases hq : vs[j] with
        | mk k1 b1 n1 s1 ks1 vs1 =>
          rw [walk]
          simp
      generalize vs[j] = x at *
      have hx8' := hx8.below hg bB
      have hxx' := HoldP.keep bB.size (fun g _ hlt => bB.block g hlt) x hxx
      obtain ⟨k', b', n', s', ks', vs'⟩ := x
      have hh2 := hxx'
      rw [HoldP] at hh2
      obtain ⟨uk', a', c', rfl, -, -, -, -⟩ := hh2
      obtain ⟨d0, d1, d2, d3, d4, d5, d6, d7⟩ := hx8'.cells
      have hcall' := hcall wr (.agg #[.int .i64 k', .bool b', .bool n'.neg, .string (txt n'.dig), .int .i64 n'.exp, .string (txt s'), uk', .slice a' vs'.length c']) (by omega) ⟨_, rfl, hxx'⟩
      have wd : IntKind.i64.wrap ((d : Int) + 1) = (d : Int) + 1 := by simp only [IntKind.wrap, IntKind.signed, IntKind.bits]; simp; omega
      have wk : IntKind.i64.wrap ((j : Int) + 1) = (j : Int) + 1 := by simp only [IntKind.wrap, IntKind.signed, IntKind.bits]; simp; omega
      have ed : (d : Int) + 1 = ((d + 1 : Nat) : Int) := by omega
      have hgl := Nat.lt_of_lt_of_le hg bB.size
      have hal := lt_of_heap hA
      have HT := Lib.hid hts
      rw [← ed] at hcall'
      generalize walk (d + 1) ⟨k', b', n', s', ks', vs'⟩ = wl at *
      generalize walks (d + 1) (vs.take j) = pre at *
      clear hts ed hcall hxx' hx8' hxx hx8 ih hck hcv hx
      go_wp2_with fail
      refine hcall'.mono ?_
      rintro e w3 ⟨⟨y, css2, rfl, ho2, hs2⟩, k3⟩
      obtain ⟨g2, c2, rfl, hg2, hg2l, hcells⟩ := own_cells ho2 hpos
      have hsz2 := hs2.sizes
      have hfl2 := flatten_len9 hsz2.1
      have hone2 : ∀ u ∈ css2.flatten, u.oneCell' = true := fun u hu => by
        obtain ⟨c, hc, huc⟩ := List.mem_flatten.1 hu
        exact hsz2.2 c hc u huc
      have hl2 := hs2.1
      have hown3 := own_under hown k3
      have hsz3 := k3.size
      have HC := Lib.hid hcells
      have HO := Lib.hid hone2
      have HF := Lib.hid hfl2
      have HL := Lib.hid hl2
      clear hcells hone2 hfl2 hl2 hsz2
      go_wp2_with (at_builtin; refine wpList_append_lies _ rfl _ _ 39 rfl (w.heap.size + 1) 45 i0 zeroS 9 120 Tryd.underlying39 hi0 hz0 hz1 hz2 rfl (by decide) _ _ _ rfl hown3 ⟨g2, 0, none⟩ wl.length c2 css2.flatten rfl ?c1 HC.out HO.out hpos ?c3 ?c4 ?c5 w3.heap.size rfl ?_)
      case c1 => rw [HF.out, HL.out]
      case c3 => unfold maxLen; omega
      case c4 => omega
      case c5 => omega
      · intro g4 cap4 w4 h2 h3 h4 h5
        go_wp2_with fail
        go_roundw
        case rel => exact ⟨j + 1, css ++ css2, by omega, by go_num, by rw [HT.out, List.length_append, ← Nat.add_assoc, List.flatten_append]; exact h2, by
            rw [HT.out]
            have bX : Below (w.heap.size + 1) w3 w4 := (Below.refl _ w3).grown h3 (by omega) (fun k e => (hown3.lt k e).1)
            exact Spots.append (b := css2) ((HS.out.keep k3.size (fun g _ hlt => k3.block g hlt)).keep bX.size (fun g hgb _ => bX.block g (by omega))) (hs2.keep bX.size (fun g hgb _ => bX.block g (by omega))),
          by
            have bX : Below (w.heap.size + 1) w3 w4 := (Below.refl _ w3).grown h3 (by omega) (fun k e => (hown3.lt k e).1)
            exact (bX.block _ (by omega)).trans ((k3.block _ hal).trans hA),
          by
            have bX : Below (w.heap.size + 1) w3 w4 := (Below.refl _ w3).grown h3 (by omega) (fun k e => (hown3.lt k e).1)
            exact (bB.trans (k3.mono bB.size)).trans (bX.mono (by omega)),
          by have := h3.size; omega⟩
        case measure => simp [intOf]; omega
    · obtain rfl : j = vs.length := by omega
      have hd : decide (vs.length < vs.length) = false := by simp
      have hfin := HS.out
      rw [List.take_length] at hown hfin
      have HF := Lib.hid hfin
      clear hfin HS
      go_wp2_with fail
      go_ret
      have hown2 := own_mono hown (b' := w.heap.size) (by omega)
      rw [Nat.add_comm] at hown2
      exact ⟨⟨_, css, rfl, hown2, HF.out⟩, bB⟩
end Go.Proofs.YtjekannajnkejaaDoor.Tre
namespace Go.Proofs.YtjekannajnkejaaDoor.Tre
open Go.RowKit Kit Txt
open Num (Dec zero)

/-- How deep, and the value. -/
def encsW (x : Nat × Value) : Array Value := #[.int .i64 x.1, x.2]
/-- What is known of an element in the world in which it is told: it is the next one. -/
def EW (v : Val) (pre : List (Nat × Value)) (x : Nat × Value) (W : World) : Prop := ∃ y, (walk 0 v)[pre.length]? = some (x.1, y) ∧ HoldV W x.2 y
/-- What a round must keep: what lay below n₀, and whatever cells lie from lo on. -/
def KeptT (n₀ lo : Nat) (A B : World) : Prop := Below n₀ A B ∧ ∀ (k : Nat) (o : Obj), lo ≤ k → A.heap[k]? = some o → o.isCells = true → B.heap[k]? = some o
theorem KeptT.refl (n₀ lo : Nat) (A : World) : KeptT n₀ lo A A := ⟨Below.refl _ _, fun _ _ _ h _ => h⟩
theorem KeptT.trans {n₀ lo : Nat} {A B C : World} (h : KeptT n₀ lo A B) (k : KeptT n₀ lo B C) : KeptT n₀ lo A C := ⟨h.1.trans k.1, fun j o h1 h2 h3 => k.2 j o h1 (h.2 j o h1 h2 h3) h3⟩
theorem KeptT.of_below {n₀ lo : Nat} {A B : World} (h : Below A.heap.size A B) (hn : n₀ ≤ A.heap.size) : KeptT n₀ lo A B := ⟨h.mono hn, fun _ _ _ h2 _ => (h.block _ (Array.getElem?_eq_some_iff.1 h2).1).trans h2⟩
theorem keptT_b {n₀ lo : Nat} {w : World} (hn : n₀ ≤ w.heap.size) (W : World) (l : Nat) (o o' : Obj) (hl : w.heap.size ≤ l) (h : W.heap[l]? = some o) (h1 : o.isCells = false) (h2 : o.isWalk = false) : KeptT n₀ lo W (W.putObj l o') :=
  ⟨belowK_b hn W l o o' hl h h1 h2, fun j x _ hj hx => (World.putObj_heap_other (fun e => by subst e; rw [h] at hj; cases hj; rw [h1] at hx; cases hx)).trans hj⟩
theorem Ks.cells {w w' : World} {u : Value} {ls : List (List UInt8)} (h : Ks w u ls) (hz : w.heap.size ≤ w'.heap.size) (hk : ∀ g i x, w.cell? ⟨g, i, none⟩ = some x → w'.cell? ⟨g, i, none⟩ = some x) : Ks w' u ls := by
  obtain ⟨a, c, hu, h1, h2, h3⟩ := h
  refine ⟨a, c, hu, h1, h2, h3.imp id ?_⟩
  rintro ⟨g, off, ha, hg, hx⟩
  exact ⟨g, off, ha, Nat.lt_of_lt_of_le hg hz, fun i l hi => hk _ _ _ (hx i l hi)⟩
mutual
theorem Hold.cells {w w' : World} (hz : w.heap.size ≤ w'.heap.size) (hk : ∀ g i x, w.cell? ⟨g, i, none⟩ = some x → w'.cell? ⟨g, i, none⟩ = some x) : ∀ (v : Val) {cs : List Value}, Hold w cs v → Hold w' cs v
  | ⟨k, i, n, s, ks, vs⟩, cs, h => by
    rw [Hold] at h ⊢
    obtain ⟨uk, a, c, hcs, hks, hc, hm, h⟩ := h
    refine ⟨uk, a, c, hcs, hks.cells hz hk, hc, hm, h.imp id ?_⟩
    rintro ⟨g, off, ha, hg, hx⟩
    exact ⟨g, off, ha, Nat.lt_of_lt_of_le hg hz, Holds.cells hz hk vs hx⟩
theorem Holds.cells {w w' : World} (hz : w.heap.size ≤ w'.heap.size) (hk : ∀ g i x, w.cell? ⟨g, i, none⟩ = some x → w'.cell? ⟨g, i, none⟩ = some x) : ∀ (vs : List Val) {g off : Nat}, Holds w g off vs → Holds w' g off vs
  | [], _, _, _ => by rw [Holds]; trivial
  | v :: r, g, off, h => by
    rw [Holds] at h ⊢
    obtain ⟨⟨cs, h8, hv⟩, hr⟩ := h
    refine ⟨⟨cs, ⟨h8.1, fun j hj => ?_⟩, Hold.cells hz hk v hv⟩, Holds.cells hz hk r hr⟩
    have hj' : j < cs.length := by rw [h8.1]; exact hj
    rw [List.getElem?_eq_getElem hj']
    exact hk _ _ _ ((h8.2 j hj).trans (List.getElem?_eq_getElem hj'))
end
theorem put_cells {W : World} {l : Nat} {o o' : Obj} (hl : W.heap[l]? = some o) (ho : o.isCells = false) (g i : Nat) (x : Value) (h : W.cell? ⟨g, i, none⟩ = some x) : (W.putObj l o').cell? ⟨g, i, none⟩ = some x := by
  have hne : g ≠ l := fun e => by
    subst e
    unfold World.cell? at h
    rw [hl] at h
    cases o <;> simp_all [Obj.isCells]
  exact cell_keep h (World.putObj_heap_other hne)
/-- A value's memory is cells: what turns a block that is none leaves it. -/
theorem EW.put {v : Val} {pre : List (Nat × Value)} {x : Nat × Value} {W : World} {l : Nat} {o o' : Obj} (hl : W.heap[l]? = some o) (ho : o.isCells = false) (h : EW v pre x W) : EW v pre x (W.putObj l o') := by
  obtain ⟨y, hy, hx⟩ := h
  obtain ⟨cs, hu, hc⟩ := hx
  exact ⟨y, hy, cs, hu, Hold.cells (by simp) (put_cells hl ho) y hc⟩
end Go.Proofs.YtjekannajnkejaaDoor.Tre
