/- The contract of the laws' own helper told: a slice of the first scalars, as many as are asked for. Nothing is claimed here. -/
import Derived.Test.YtheohchmjgmpnaaDoorUtfRows
namespace Go.Proofs.YtheohchmjgmpnaaDoor.Utf
open Go.RowKit Kit Go.Shelf
attribute [local go_sem] Oper.semAt_some

/-- 'f != nil' of a function. -/
theorem equalIn_func_nil {P : Program} {t : TypeId} {ps rs : Array TypeId} {v : Bool} (h : P.underlying t = some (.func ps rs v)) (d : Nat) (f : Fn) (a b : Array Value) (w : World) : (Op.equalIn (d + 1) t (.func f a b) .nilFunc).run P w = .ok false w := by
  simp [Op.equalIn, run_underlying h]
theorem neq_func_nil {P : Program} {t : TypeId} {ps rs : Array TypeId} {v : Bool} (h : P.underlying t = some (.func ps rs v)) (f : Fn) (a b : Array Value) (w : World) : (binOp .neq t (.func f a b) .nilFunc).run P w = .ok (.bool true) w := by
  simp only [binOp]
  simp [Op.equal, Op.maxDepth, equalIn_func_nil h 9999]

/-- A value that owns a row is a slice of its length. -/
theorem own_slice {w : World} {base : Nat} {e : TypeId} {size : Nat} {v : Value} {n : Nat} {xs : List Value} (h : w.ownsRow base e size v n xs) : ∃ a c, v = .slice a n c := by
  rcases h.2 with ⟨rfl, rfl⟩ | ⟨g, cap, _, rfl, _⟩
  · exact ⟨_, _, rfl⟩
  · exact ⟨_, _, rfl⟩

set_option maxRecDepth 100000 in
set_option maxHeartbeats 4000000 in
theorem told_any {w : World} {s : ByteArray} {most : Int} (hs : s.size < 1000000000) (hl : Laid w) :
    Calls Tryd.prog 13 #[.string s, .int .i64 most] w fun e w' => ∃ v, e = .returned v ∧ w'.ownsRow w.heap.size 31 2 v ((all s.data.toList).take most.toNat).length (cellsL ((all s.data.toList).take most.toNat)) ∧ Below w.heap.size w w' := by
  have hlen : s.data.toList.length = s.size := by simp
  have hal : (all s.data.toList).length ≤ s.size := hlen ▸ scan_len s.data.toList 0
  have hgl := hl.lt
  obtain ⟨i0, hi, hz0, hz1, hz2⟩ := info_parts infoScalar
  refine (callsIn_wide (n := 5)).1 ?_
  refine callsIn_of_wp_marks Tryd.func13 rfl trivial ?_ rfl
  simp only [Tryd.ntmps13, List.size_toArray, List.length_cons, List.length_nil, Nat.reduceAdd, Nat.reduceSub, Array.replicate_succ, Array.replicate_zero, List.push_toArray, List.append_toArray, List.nil_append, List.cons_append]
  have hnn := neq_func_nil Tryd.underlying41 (.func 22) #[]
  gi_wp2_with (refine ⟨trivial, ?_⟩; gi_at_call 19; refine (all_any 4 _ _).mono ?_; rintro e w2 ⟨rfl, rfl⟩)
  have bM := Boxed.new w 3 (.int .i64 most)
  have bO := Boxed.new (w.alloc (.cells #[.int .i64 most] 3)) 28 (.slice none 0 0)
  have bN := Boxed.new ((w.alloc (.cells #[.int .i64 most] 3)).alloc (.cells #[.slice none 0 0] 28)) 9 (.string s)
  rw [World.size_alloc] at bO bN
  rw [World.size_alloc] at bN
  have hB0 : Below w.heap.size w (((w.alloc (.cells #[.int .i64 most] 3)).alloc (.cells #[.slice none 0 0] 28)).alloc (.cells #[.string s] 9)) := (((Below.refl _ w).alloc (Nat.le_refl _) _).alloc (by simp) _).alloc (by simp; omega) _
  refine wpIn_rangeFunc_ownG rfl (by omega) (gf := 22) (lb := #[.pointer (some ⟨w.heap.size + 1 + 1, 0, none⟩)]) rfl trivial (enters_of Tryd.func22 (by kernel_rfl) rfl)
    (all_stops 4 (by omega) (w.heap.size + 1 + 1) w.heap.size s (by omega) _ (by simp; omega) hgl (hl.below hB0 hgl) bN) Kept.trans (keptK_b (by simp; omega) (by simp)) (Below.refl _ _) (fun _ => rfl)
    (fun pre W => (∃ v, Boxed W (w.heap.size + 1) 28 v ∧ W.ownsRow w.heap.size 31 2 v pre.length (cellsL pre) ∧ pre.length ≤ most.toNat) ∧ (Boxed W w.heap.size 3 (.int .i64 most) ∧ Boxed W (w.heap.size + 1 + 1) 9 (.string s)) ∧ Below w.heap.size w W)
    (fun c q W => c = .exit 0 ∧ (∃ v, Boxed W (w.heap.size + 1) 28 v ∧ W.ownsRow w.heap.size 31 2 v q.dropLast.length (cellsL q.dropLast) ∧ (q ≠ [] ∧ q.dropLast.length = most.toNat)) ∧ Below w.heap.size w W)
    (OwnFrom.and (Own.from (holdsRow_own w.heap.size (w.heap.size + 1) 28 31 2 (fun pre => pre.length) (fun pre => cellsL pre) (fun pre _ => pre.length ≤ most.toNat)) _)
      (OwnFrom.and (OwnFrom.and (Own.from (boxed_own w.heap.size 3 (fun _ => .int .i64 most)) _) (Own.from (boxed_own (w.heap.size + 1 + 1) 9 (fun _ => .string s)) _)) (ownFrom_below (Nat.le_refl _) (by simp; omega))))
    (fun c => OwnFrom.and (ownFrom_pure _ (fun _ => c = .exit 0)) (OwnFrom.and (Own.from (holdsRow_own w.heap.size (w.heap.size + 1) 28 31 2 (fun q => q.dropLast.length) (fun q => cellsL q.dropLast) (fun q _ => q ≠ [] ∧ q.dropLast.length = most.toNat)) _) (ownFrom_below (Nat.le_refl _) (by simp; omega))))
    ⟨⟨_, bO.alloc _, World.ownsRow_nil _ _ _ _, by simp⟩, ⟨(bM.alloc _).alloc _, bN⟩, hB0⟩
    (fun x => { tmps := #[.string s, .int .i64 most, undef, .pointer (some ⟨w.heap.size, 0, none⟩), .slice none 0 0, .pointer (some ⟨w.heap.size + 1, 0, none⟩), .func (.func 22) #[] #[.pointer (some ⟨w.heap.size + 1 + 1, 0, none⟩)], .int .i64 x.1, .int .i64 x.2, .string s,
      .func (.func 22) #[] #[.pointer (some ⟨w.heap.size + 1 + 1, 0, none⟩)], .func (.func 22) #[] #[.pointer (some ⟨w.heap.size + 1 + 1, 0, none⟩)], .bool true, .func (.func 22) #[] #[.pointer (some ⟨w.heap.size + 1 + 1, 0, none⟩)], .int .i64 x.1, .int .i64 x.2, undef, undef, undef, undef, undef, undef, undef, undef, undef, undef, undef], defers := [] }) ?assign ?body ?done ?stop
  case assign =>
    intro l x W K hK
    simp [encs]
    gi_wp2
    exact hK
  case body =>
    rintro l pre x W ⟨⟨v, hv, hrow, hle⟩, ⟨hM, hN⟩, hB⟩ hlt
    have hc := hv.cell
    have hcm := hM.cell
    obtain ⟨sa, sc, rfl⟩ := own_slice hrow
    have hB0' := hB.size
    by_cases hm : most ≤ (pre.length : Int)
    · gi_wp2
      exact ⟨KeepsFrom.refl _ _, rfl, ⟨_, hv, by rw [List.dropLast_concat]; exact hrow, by simp, by rw [List.dropLast_concat]; omega⟩, hB⟩
    · have hm' : decide (most ≤ (pre.length : Int)) = false := by simp; omega
      gi_wp2_with (gi_at_builtin; refine wpListIn_append_own _ rfl _ _ 28 rfl w.heap.size 31 i0 (.agg #[.int .i64 0, .int .i64 0]) 2 16 Tryd.underlying28 hi hz0 hz1 hz2 rfl (by decide) _ _ _ rfl (hrow.alloc _) ⟨W.heap.size, 0, none⟩ 1 1 [.int .i64 x.1, .int .i64 x.2] rfl rfl (cell_two_new _ _ _ _) (by simp [Value.oneCell']) ?b1 ?b2 ?b3 ?_; rotate_left 3; intro v' w1 hown' hgrow _; obtain ⟨g', cap', rfl⟩ := ownsRow_succ hown'; obtain ⟨hv1, hv2, hr2, hk2, hb2⟩ := hv.appended (by decide) hrow hB.size (Nat.le_succ _) hown' hgrow; have hc1 := hv1.cell; have hf1 := hv1.frozen)
      case b1 => unfold maxLen; omega
      case b2 => omega
      case b3 => omega
      have hM' := ((hM.alloc _).kept hgrow (hM.not_row (by decide) hrow)).other (B' := w.heap.size + 1) (by omega) (.slice (some ⟨g', 0, none⟩) (pre.length + 1) cap')
      have hN' := ((hN.alloc _).kept hgrow (hN.not_row (by decide) hrow)).other (B' := w.heap.size + 1) (by omega) (.slice (some ⟨g', 0, none⟩) (pre.length + 1) cap')
      exact ⟨hk2.from _, ⟨hb2, hN'.trans hN.symm⟩, ⟨_, hv2, by rw [cellsL_app, List.length_append]; exact hr2, by simp; omega⟩, ⟨hM', hN'⟩, hB.trans hb2⟩
  case done =>
    rintro D ys W hD rfl ⟨⟨v, hv, hrow, hle⟩, ⟨hM, hN⟩, hB⟩ hK
    have hc := hv.cell
    gi_wp2
    refine ⟨by simp, .inl ⟨_, _, rfl, run_takeDeferred hK, ?_⟩⟩
    refine ⟨_, results_tmp rfl _ _ _, v, rfl, ?_, hB.trans (belowK_b (w := w) (Nat.le_refl _) W D _ _ (by simp at hD; omega) hK rfl rfl)⟩
    have e : (all s.data.toList).take most.toNat = all s.data.toList := List.take_of_length_le hle
    rw [e]
    exact ownsRow_putObj hrow _ hK rfl
  case stop =>
    rintro D cd c W hD hp ⟨hcc, ⟨v, hv, hrow, hne, hle⟩, hB⟩ hK
    subst hcc
    have hc := hv.cell
    gi_wp2
    refine ⟨by simp, .inl ⟨_, _, rfl, run_takeDeferred hK, ?_⟩⟩
    refine ⟨_, results_tmp rfl _ _ _, v, rfl, ?_, hB.trans (belowK_b (w := w) (Nat.le_refl _) W D _ _ (by simp at hD; omega) hK rfl rfl)⟩
    have e : (all s.data.toList).take most.toNat = c.dropLast := by
      obtain ⟨t, ht⟩ := hp
      rw [← ht, ← hle]
      conv => lhs; rw [← List.dropLast_concat_getLast hne, List.append_assoc]
      simp
    rw [e]
    exact ownsRow_putObj hrow _ hK rfl
end Go.Proofs.YtheohchmjgmpnaaDoor.Utf
