/- The contract of the laws' own helper told: a slice of the first numbers, as many as are asked for. Nothing is claimed here. -/
import Derived.Test.YtgckfndjbhjjoaaVarAll
namespace Go.Proofs.Ytgckfndjbhjjoaa.Var
open Go.RowKit Kit Byt Go.Shelf
attribute [local go_sem] Oper.semAt_some

/-- 'f != nil' of a function. -/
theorem equalIn_func_nil {P : Program} {t : TypeId} {ps rs : Array TypeId} {v : Bool} (h : P.underlying t = some (.func ps rs v)) (d : Nat) (f : Fn) (a b : Array Value) (w : World) : (Op.equalIn (d + 1) t (.func f a b) .nilFunc).run P w = .ok false w := by
  simp [Op.equalIn, run_underlying h]
theorem neq_func_nil {P : Program} {t : TypeId} {ps rs : Array TypeId} {v : Bool} (h : P.underlying t = some (.func ps rs v)) (f : Fn) (a b : Array Value) (w : World) : (binOp .neq t (.func f a b) .nilFunc).run P w = .ok (.bool true) w := by
  simp only [binOp]
  simp [Op.equal, Op.maxDepth, equalIn_func_nil h 9999]

theorem cell_one_new (w : World) (x : Value) (t : TypeId) : ∀ j u, [x][j]? = some u → (w.alloc (.cells #[x] t)).cell? ((⟨w.heap.size, 0, none⟩ : Addr).add j) = some u := by
  intro j u hj
  have h := cell_of (World.alloc_heap_new w (.cells #[x] t)) j
  match j, hj with
  | 0, hj => exact h.trans hj

theorem own_form {w : World} {base : Nat} {e : TypeId} {size : Nat} {v : Value} {n : Nat} {xs : List Value} (h : w.ownsRow base e size v n xs) : ∃ a c, v = .slice a n c := by
  obtain ⟨a, c, h, _⟩ := own_slice h
  exact ⟨a, c, h⟩

set_option maxRecDepth 100000 in
set_option maxHeartbeats 4000000 in
theorem told_any {w : World} {a : Option Addr} {len c : Nat} {L : List Nat} {most : Int} (hlen : L.length = len) (hx : Bs w (.slice a len c) L) (hs : len < 1000000) :
    Calls Try.prog 16 #[.slice a len c, .int .i64 most] w fun e w' => ∃ v, e = .returned v ∧ w'.ownsRow w.heap.size 22 1 v ((all L).take most.toNat).length (U64.numsV ((all L).take most.toNat)) ∧ Below w.heap.size w w' := by
  have hal : (all L).length ≤ len := hlen ▸ all_len _ L rfl
  obtain ⟨i0, hi, hz0, hz1, hz2⟩ := info_parts U64.infoNum
  refine (callsIn_wide (n := 5)).1 ?_
  refine callsIn_of_wp_marks Try.func16 rfl trivial ?_ rfl
  simp only [Try.ntmps16, List.size_toArray, List.length_cons, List.length_nil, Nat.reduceAdd, Nat.reduceSub, Array.replicate_succ, Array.replicate_zero, List.push_toArray, List.append_toArray, List.nil_append, List.cons_append]
  have hnn := neq_func_nil Try.underlying45 (.func 22) #[]
  have bM := Boxed.new w 3 (.int .i64 most)
  have bO := Boxed.new (w.alloc (.cells #[.int .i64 most] 3)) 36 (.slice none 0 0)
  rw [World.size_alloc] at bO
  have hB0 : Below w.heap.size w ((w.alloc (.cells #[.int .i64 most] 3)).alloc (.cells #[.slice none 0 0] 36)) := ((Below.refl _ w).alloc (Nat.le_refl _) _).alloc (by simp) _
  gi_wp2_with (refine ⟨trivial, ?_⟩; gi_at_call 20; refine (all_any 4 hlen hs _ (hx.below hB0)).mono ?_; rintro e w2 ⟨Bn, a', c', rfl, hB1, hB2, hBn, hxk, k2⟩)
  simp only [World.size_alloc] at hB1 hxk k2
  have bM2 : Boxed w2 w.heap.size 3 (.int .i64 most) := (k2.block _ (by omega)).trans (bM.alloc _)
  have bO2 : Boxed w2 (w.heap.size + 1) 36 (.slice none 0 0) := (k2.block _ (by omega)).trans bO
  have hB2' : Below w.heap.size w w2 := hB0.trans (k2.mono (by omega))
  have hzk := k2.size
  simp only [World.size_alloc] at hzk
  clear bM bO hB0
  refine wpIn_rangeFunc_ownG rfl (by omega) (gf := 22) (lb := #[.pointer (some ⟨Bn, 0, none⟩)]) rfl trivial (enters_of Try.func22 (by kernel_rfl) rfl)
    (all_stops 4 (by omega) Bn w.heap.size (w.heap.size + 1 + 1) w2.heap.size w2 rfl ⟨hB1, hB2⟩ hlen hxk hs (by omega) hBn) Kept.trans (keptK_b (by omega) (Nat.le_refl _)) (Below.refl _ _) (fun _ => rfl)
    (fun pre W => (∃ v, Boxed W (w.heap.size + 1) 36 v ∧ W.ownsRow w2.heap.size 22 1 v pre.length (U64.numsV pre) ∧ pre.length ≤ most.toNat) ∧ (Boxed W w.heap.size 3 (.int .i64 most) ∧ w2.heap.size ≤ W.heap.size) ∧ Below w.heap.size w W)
    (fun c q W => c = .exit 0 ∧ (∃ v, Boxed W (w.heap.size + 1) 36 v ∧ W.ownsRow w2.heap.size 22 1 v q.dropLast.length (U64.numsV q.dropLast) ∧ (q ≠ [] ∧ q.dropLast.length = most.toNat)) ∧ Below w.heap.size w W)
    (OwnFrom.and (Own.from (holdsRow_own w2.heap.size (w.heap.size + 1) 36 22 1 (fun pre => pre.length) (fun pre => U64.numsV pre) (fun pre _ => pre.length ≤ most.toNat)) _)
      (OwnFrom.and (OwnFrom.and (Own.from (boxed_own w.heap.size 3 (fun _ => .int .i64 most)) _) (fun _ _ _ _ hs hg _ => Nat.le_trans hs hg.size)) (ownFrom_below (Nat.le_refl _) (by omega))))
    (fun c => OwnFrom.and (ownFrom_pure _ (fun _ => c = .exit 0)) (OwnFrom.and (Own.from (holdsRow_own w2.heap.size (w.heap.size + 1) 36 22 1 (fun q => q.dropLast.length) (fun q => U64.numsV q.dropLast) (fun q _ => q ≠ [] ∧ q.dropLast.length = most.toNat)) _) (ownFrom_below (Nat.le_refl _) (by omega))))
    ⟨⟨_, bO2, World.ownsRow_nil _ _ _ _, by simp⟩, ⟨bM2, Nat.le_refl _⟩, hB2'⟩
    (fun x => { tmps := #[.slice a len c, .int .i64 most, undef, .pointer (some ⟨w.heap.size, 0, none⟩), .slice none 0 0, .pointer (some ⟨w.heap.size + 1, 0, none⟩), .func (.func 22) #[] #[.pointer (some ⟨Bn, 0, none⟩)], .int .u64 x, .slice a len c,
      .func (.func 22) #[] #[.pointer (some ⟨Bn, 0, none⟩)], .func (.func 22) #[] #[.pointer (some ⟨Bn, 0, none⟩)], .bool true, .func (.func 22) #[] #[.pointer (some ⟨Bn, 0, none⟩)], .int .u64 x, undef, undef, undef, undef, undef, undef, undef, undef, undef], defers := [] }) ?assign ?body ?done ?stop
  case assign =>
    intro l x W K hK
    simp [encs]
    gi_wp2
    exact hK
  case body =>
    rintro l pre x W ⟨⟨v, hv, hrow, hle⟩, ⟨hM, hN⟩, hB⟩ hlt
    have hrow0 := hrow.mono (base' := w.heap.size) (by omega)
    have hc := hv.cell
    have hcm := hM.cell
    obtain ⟨sa, sc, rfl⟩ := own_form hrow
    have hB0' := hB.size
    by_cases hm : most ≤ (pre.length : Int)
    · gi_wp2
      exact ⟨KeepsFrom.refl _ _, rfl, ⟨_, hv, by rw [List.dropLast_concat]; exact hrow, by simp, by rw [List.dropLast_concat]; omega⟩, hB⟩
    · have hm' : decide (most ≤ (pre.length : Int)) = false := by simp; omega
      gi_wp2_with (gi_at_builtin; refine wpListIn_append_own _ rfl _ _ 36 rfl w2.heap.size 22 i0 (.int .u64 0) 1 8 Try.underlying36 hi hz0 hz1 hz2 rfl (by decide) _ _ _ rfl (hrow.alloc _) ⟨W.heap.size, 0, none⟩ 1 1 [.int .u64 x] rfl rfl (cell_one_new _ _ _) (by simp [Value.oneCell']) ?b1 ?b2 ?b3 ?_; rotate_left 3; intro v' w1 hown' hgrow _; obtain ⟨g', cap', rfl⟩ := ownsRow_succ hown'; obtain ⟨hv1, hv2, hr2, hk2, hb2⟩ := hv.appended (by decide) hrow0 hB.size (Nat.le_succ _) (hown'.mono (base' := w.heap.size) (by omega)) hgrow; have hc1 := hv1.cell; have hf1 := hv1.frozen)
      case b1 => unfold maxLen; omega
      case b2 => omega
      case b3 => omega
      have hM' := ((hM.alloc _).kept hgrow (hM.not_row (by decide) hrow)).other (B' := w.heap.size + 1) (by omega) (.slice (some ⟨g', 0, none⟩) (pre.length + 1) cap')
      have hr3 := hown'.kept (grownBy_setCell' w1 (w.heap.size + 1) (.slice (some ⟨g', 0, none⟩) (pre.length + 1) cap')) (.inr (by simp only [Value.ownBlock]; intro e; injection e with e; have := (hown'.lt g' rfl).1; omega))
      have hkeep : ∀ k, w.heap.size + 1 + 1 ≤ k → k < w2.heap.size → (w1.setCell ⟨w.heap.size + 1, 0, none⟩ (.slice (some ⟨g', 0, none⟩) (pre.length + 1) cap')).heap[k]? = W.heap[k]? := fun k h1 h2 => by
        rw [(grownBy_setCell' w1 (w.heap.size + 1) _).block k (by have := hgrow.size; simp at this; omega) (by intro e; injection e with e; omega)]
        rw [hgrow.block k (by simp; omega) (by intro e; have := (hrow.lt k e.symm).1; omega)]
        exact Below.heap_alloc _ _ _ (by omega)
      exact ⟨hk2.from _, ⟨hb2, hkeep⟩, ⟨_, hv2, by rw [U64.numsV_app, List.length_append]; exact hr3, by simp; omega⟩, ⟨hM', by have := hb2.size; omega⟩, hB.trans hb2⟩
  case done =>
    rintro D ys W hD rfl ⟨⟨v, hv, hrow, hle⟩, ⟨hM, hN⟩, hB⟩ hK
    have hc := hv.cell
    gi_wp2
    refine ⟨by simp, .inl ⟨_, _, rfl, run_takeDeferred hK, ?_⟩⟩
    refine ⟨_, results_tmp rfl _ _ _, v, rfl, ?_, hB.trans (belowK_b (w := w) (Nat.le_refl _) W D _ _ (by omega) hK rfl rfl)⟩
    have e : (all L).take most.toNat = all L := List.take_of_length_le hle
    rw [e]
    exact (ownsRow_putObj hrow _ hK rfl).mono (by omega)
  case stop =>
    rintro D cd c W hD hp ⟨hcc, ⟨v, hv, hrow, hne, hle⟩, hB⟩ hK
    subst hcc
    have hc := hv.cell
    gi_wp2
    refine ⟨by simp, .inl ⟨_, _, rfl, run_takeDeferred hK, ?_⟩⟩
    refine ⟨_, results_tmp rfl _ _ _, v, rfl, ?_, hB.trans (belowK_b (w := w) (Nat.le_refl _) W D _ _ (by omega) hK rfl rfl)⟩
    have e : (all L).take most.toNat = c.dropLast := by
      obtain ⟨t, ht⟩ := hp
      rw [← ht, ← hle]
      conv => lhs; rw [← List.dropLast_concat_getLast hne, List.append_assoc]
      simp
    rw [e]
    exact (ownsRow_putObj hrow _ hK rfl).mono (by omega)
end Go.Proofs.Ytgckfndjbhjjoaa.Var
