/- Slices of scalars: what told and tabulariumref02.All answer, and what same says of two of them. Nothing is claimed here. -/
import Derived.Test.YtheohchmjgmpnaaDoorUtfRefB
import Derived.Test.YtheohchmjgmpnaaDoorUtfAll
namespace Go.Proofs.YtheohchmjgmpnaaDoor.Utf
open Go.RowKit Kit Go.Shelf

/-- The cells of a list of scalars. -/
def cellsL (xs : List (Nat × Nat)) : List Value := xs.flatMap fun x => [.int .i64 x.1, .int .i64 x.2]
theorem cellsL_len (xs : List (Nat × Nat)) : (cellsL xs).length = xs.length * 2 := by
  induction xs with
  | nil => rfl
  | cons x xs ih => simp only [cellsL, List.flatMap_cons, List.length_append, List.length_cons, List.length_nil] at ih ⊢; omega
theorem cellsL_app (xs ys : List (Nat × Nat)) : cellsL (xs ++ ys) = cellsL xs ++ cellsL ys := by simp [cellsL]
theorem infoScalar : (Tryd.prog.info? 31).map (fun i => (i.zero, i.size, i.bytes)) = some (some (.agg #[.int .i64 0, .int .i64 0]), 2, 16) := by kernel_rfl

theorem own_below {w w' : World} {base : Nat} {e : TypeId} {size : Nat} {v : Value} {n : Nat} {xs : List Value} (h : w.ownsRow base e size v n xs) (b : Below w.heap.size w w') : w'.ownsRow base e size v n xs :=
  h.kept (grown_of_below b) (by cases hv : v.ownBlock <;> simp)

theorem cell_two_new (w : World) (x y : Value) (t : TypeId) : ∀ j u, [x, y][j]? = some u → (w.alloc (.cells #[x, y] t)).cell? ((⟨w.heap.size, 0, none⟩ : Addr).add j) = some u := by
  intro j u hj
  have h := cell_of (World.alloc_heap_new w (.cells #[x, y] t)) j
  match j, hj with
  | 0, hj => exact h.trans hj
  | 1, hj => exact h.trans hj

set_option maxHeartbeats 1000000 in
theorem rall_any {w : World} {s : ByteArray} (hs : s.size < 1000000000) :
    Calls Tryd.prog 17 #[.string s] w fun e w' => ∃ v, e = .returned v ∧ w'.ownsRow w.heap.size 31 2 v (all s.data.toList).length (cellsL (all s.data.toList)) ∧ Below w.heap.size w w' := by
  have hlen : s.data.toList.length = s.size := by simp
  obtain ⟨i0, hi, hz0, hz1, hz2⟩ := info_parts infoScalar
  go_enter Tryd.func17, Tryd.ntmps17
  go_wp2_with fail
  go_loopw [3, 4] (fun v i wr => ∃ (k : Nat) (pre : List (Nat × Nat)), k ≤ s.size ∧ i = .int .i64 k ∧ all s.data.toList = pre ++ (scan k (s.data.toList.drop k)).1 ∧ wr.ownsRow w.heap.size 31 2 v pre.length (cellsL pre) ∧ Below w.heap.size w wr) (fun _ i _ => s.size - (intOf i).toNat)
  case atStart => exact ⟨0, [], Nat.zero_le _, rfl, rfl, World.ownsRow_nil _ _ _ _, Below.refl _ _⟩
  case round =>
    obtain ⟨k, pre, hk, rfl, hall, hown, hbel⟩ := hrel
    have hpl : pre.length ≤ s.size := by
      have h1 := scan_len s.data.toList 0
      have h2 := congrArg List.length hall
      rw [List.length_append] at h2
      unfold all at h2
      omega
    by_cases hlt : k < s.size
    · have hks : (k : Int) < (s.size : Int) := by omega
      have hd := rone_any (w := wr) (by omega) hlt
      rcases scan_at (l := s.data.toList) (by omega : k < s.data.toList.length) with ⟨h0, hr⟩ | ⟨h0, h1, h2, hr⟩
      · rw [hr, List.append_nil] at hall
        go_wp2_with fail
        refine hd.mono ?_
        rintro e w1 ⟨rfl, b1⟩
        go_wp2_with fail
        go_ret
        exact ⟨_, rfl, by rw [hall]; exact own_below hown b1, hbel.trans (b1.mono hbel.size)⟩
      · rw [hr] at hall
        go_wp2_with fail
        refine hd.mono ?_
        rintro e w1 ⟨rfl, b1⟩
        have hown1 := own_below hown b1
        have hsz1 := Nat.le_trans hbel.size b1.size
        go_wp2_with (at_builtin; refine wpList_append_own _ rfl _ _ 28 rfl w.heap.size 31 i0 (.agg #[.int .i64 0, .int .i64 0]) 2 16 Tryd.underlying28 hi hz0 hz1 hz2 rfl (by decide) _ _ _ rfl (hown1.alloc _) ⟨w1.heap.size, 0, none⟩ 1 1 [.int .i64 k, .int .i64 (one (s.data.toList.drop k)).1] rfl rfl (cell_two_new _ _ _ _) ?c2 ?c3 ?c4 ?c5 ?_)
        case c2 => intro u hu; simp at hu; rcases hu with rfl | rfl <;> rfl
        case c3 => unfold maxLen; omega
        case c4 => omega
        case c5 => simp; omega
        · intro v' w2 hown' hgrow _
          obtain ⟨g', cap', rfl⟩ := ownsRow_succ hown'
          go_wp2_with fail
          go_roundw
          case rel =>
            refine ⟨k + (one (s.data.toList.drop k)).2, pre ++ [(k, (one (s.data.toList.drop k)).1)], by omega, by go_num, by rw [hall]; simp, ?_, ?_⟩
            · rw [cellsL_app, List.length_append]; exact hown'
            · exact ((hbel.trans (b1.mono hbel.size)).alloc hsz1 _).grown hgrow (by simp; omega) (fun j e => (hown1.lt j e).1)
          case measure => simp [intOf]; omega
    · obtain rfl : k = s.size := by omega
      go_wp2_with fail
      go_ret
      have e : s.data.toList.drop s.size = [] := List.drop_eq_nil_of_le (by omega)
      rw [e, scan_nil, List.append_nil] at hall
      exact ⟨_, rfl, by rw [hall]; exact hown, hbel⟩
end Go.Proofs.YtheohchmjgmpnaaDoor.Utf
