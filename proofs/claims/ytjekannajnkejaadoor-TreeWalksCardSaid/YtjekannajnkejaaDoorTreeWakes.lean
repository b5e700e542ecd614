/- The examples of layer 8 hold, over the contracts of package tree (XTreeFn). Nothing is claimed here. -/
import Derived.Test.YtjekannajnkejaaDoorTreeFn
namespace Go.Proofs.YtjekannajnkejaaDoor.Tre
open Go.RowKit Kit Txt
open Num (Dec zero)

def vOne : Val := ⟨2, true, zero, [], [], []⟩
def vObj (p q : List UInt8) : Val := ⟨6, false, zero, [], [p, q], [vOne, vOne]⟩
def vList : Val := ⟨5, false, zero, [], [], []⟩
theorem fine_one (d : Nat) (hd : d ≤ 70) : Fine d vOne := by
  unfold vOne
  rw [Fine]
  exact ⟨hd, by simp, by simp [zero], by simp, by rw [Fines]; trivial⟩
theorem mild_obj {p q : List UInt8} (hp : p.length ≤ 2000) (hq : q.length ≤ 2000) : Mild (vObj p q) := by
  refine ⟨1, ?_⟩
  unfold vObj
  rw [Fine]
  refine ⟨by decide, by simp, by simp [zero], by simp [hp, hq], ?_⟩
  rw [Fines, Fines, Fines]
  exact ⟨fine_one 2 (by decide), fine_one 2 (by decide), trivial⟩
theorem mild_list : Mild vList := by
  refine ⟨1, ?_⟩
  unfold vList
  rw [Fine]
  exact ⟨by decide, by simp, by simp [zero], by simp, by rw [Fines]; trivial⟩
theorem bad_one {c : Nat} (hc : c < 128) : Utf.bad [UInt8.ofNat c] = none := by
  have h := Utf.scan_one (c := c) (by unfold Utf.Scalar; omega)
  have e : Utf.enc c = [UInt8.ofNat c] := by
    unfold Utf.enc Utf.encN
    rw [if_pos hc]
    rfl
  rw [e] at h
  unfold Utf.bad
  rw [h]
theorem bad_none : Utf.bad [] = none := by unfold Utf.bad; rw [Utf.scan_nil]
theorem right_zero : Num.Right zero := by decide
theorem whole_one : Whole vOne := by
  rw [whole_iff]
  refine ⟨?_, by intro x hx; exact absurd hx List.not_mem_nil⟩
  unfold Own
  exact ⟨by decide, by decide, fun h => absurd rfl h, fun _ => rfl, fun _ => rfl, fun _ => rfl, fun _ => rfl, right_zero, bad_none, fun h => absurd h (by decide), fun k hk => absurd hk List.not_mem_nil, List.nodup_nil⟩
theorem right_obj : Right (vObj [97] [98]) := by
  refine ⟨by decide, ?_⟩
  rw [whole_iff]
  refine ⟨?_, ?_⟩
  · unfold Own
    refine ⟨by decide, by decide, fun _ => rfl, fun _ => rfl, fun _ => rfl, fun h => absurd h (by decide), fun h => absurd rfl h, right_zero, bad_none, fun _ => rfl, fun k hk => ?_, by decide⟩
    rcases List.mem_cons.1 hk with rfl | hk
    · exact bad_one (c := 97) (by decide)
    · rw [List.mem_singleton.1 hk]
      exact bad_one (c := 98) (by decide)
  · intro x hx
    have : x = vOne := by
      rcases List.mem_cons.1 hx with e | hx
      · exact e
      · exact List.mem_singleton.1 hx
    rw [this]
    exact whole_one
theorem wrong_obj : ¬ Right (vObj [97] [97]) := by
  rintro ⟨_, h⟩
  rw [whole_iff] at h
  have := h.1
  unfold Own at this
  exact absurd this.2.2.2.2.2.2.2.2.2.2.2 (by decide)
theorem hold_obj {W : World} {g1 g2 : Nat} {p q : List UInt8} {f1 f2 : Nat × Nat} (h1 : W.heap[g1]? = some (.cells #[.string (txt p), .string (txt q)] 9 f1)) (h2 : W.heap[g2]? = some (.cells #[.int .i64 2, .bool true, .bool false, .string ⟨#[]⟩, .int .i64 0, .string ⟨#[]⟩, .slice none 0 0, .slice none 0 0, .int .i64 2, .bool true, .bool false, .string ⟨#[]⟩, .int .i64 0, .string ⟨#[]⟩, .slice none 0 0, .slice none 0 0] 27 f2)) :
    HoldV W (.agg #[.int .i64 6, .bool false, .bool false, .string ⟨#[]⟩, .int .i64 0, .string ⟨#[]⟩, .slice (some ⟨g1, 0, none⟩) 2 2, .slice (some ⟨g2, 0, none⟩) 2 2]) (vObj p q) := by
  refine ⟨_, rfl, ?_⟩
  unfold vObj
  rw [Hold]
  refine ⟨_, some ⟨g2, 0, none⟩, 2, rfl, ⟨some ⟨g1, 0, none⟩, 2, rfl, Nat.le_refl _, by omega, .inr ⟨g1, 0, rfl, lt_of_heap h1, fun i l hi => ?_⟩⟩, Nat.le_refl _, by omega, .inr ⟨g2, 0, rfl, lt_of_heap h2, ?_⟩⟩
  · match i with
    | 0 =>
      simp at hi
      subst hi
      exact cell_of h1 0
    | 1 =>
      simp at hi
      subst hi
      exact cell_of h1 1
    | i + 2 => simp at hi
  · have one : ∀ off : Nat, (∀ j, j < 8 → W.cell? ⟨g2, off + j, none⟩ = #[.int .i64 2, .bool true, .bool false, .string ⟨#[]⟩, .int .i64 0, .string ⟨#[]⟩, .slice none 0 0, .slice none 0 0][j]?) → ∃ cs, At8 W g2 off cs ∧ Hold W cs vOne := fun off h => by
      refine ⟨(#[.int .i64 2, .bool true, .bool false, .string ⟨#[]⟩, .int .i64 0, .string ⟨#[]⟩, .slice none 0 0, .slice none 0 0] : Array Value).toList, ⟨rfl, fun j hj => by rw [h j hj]; simp⟩, ?_⟩
      unfold vOne
      rw [Hold]
      exact ⟨_, none, 0, rfl, ⟨none, 0, rfl, Nat.le_refl _, by omega, .inl rfl⟩, Nat.le_refl _, by omega, .inl rfl⟩
    rw [Holds, Holds, Holds]
    refine ⟨one 0 fun j hj => ?_, one 8 fun j hj => ?_, trivial⟩
    · rw [cell_of h2]
      match j, hj with
      | 0, _ | 1, _ | 2, _ | 3, _ | 4, _ | 5, _ | 6, _ | 7, _ => rfl
    · rw [cell_of h2]
      match j, hj with
      | 0, _ | 1, _ | 2, _ | 3, _ | 4, _ | 5, _ | 6, _ | 7, _ => rfl
theorem hold_list (W : World) : HoldV W (.agg #[.int .i64 5, .bool false, .bool false, .string ⟨#[]⟩, .int .i64 0, .string ⟨#[]⟩, .slice none 0 0, .slice none 0 0]) vList := by
  refine ⟨_, rfl, ?_⟩
  unfold vList
  rw [Hold]
  exact ⟨_, none, 0, rfl, ⟨none, 0, rfl, Nat.le_refl _, by omega, .inl rfl⟩, Nat.le_refl _, by omega, .inl rfl⟩

set_option maxRecDepth 100000 in
set_option maxHeartbeats 4000000 in
theorem wakes_any {w : World} (ho : Ok w) : Calls Tryd.prog 8 #[] w fun e w' => e = .returned (.bool true) ∧ Below w.heap.size w w' := by
  obtain ⟨W, hW⟩ : ∃ W, (((((((w.alloc (.cells #[.int .i64 2, .bool true, .bool false, .string ⟨#[]⟩, .int .i64 0, .string ⟨#[]⟩, .slice none 0 0, .slice none 0 0] 27)).alloc (.cells #[.string ⟨#[97]⟩, .string ⟨#[97]⟩] 9)).alloc (.cells #[.int .i64 2, .bool true, .bool false, .string ⟨#[]⟩, .int .i64 0, .string ⟨#[]⟩, .slice none 0 0, .slice none 0 0, .int .i64 2, .bool true, .bool false, .string ⟨#[]⟩, .int .i64 0, .string ⟨#[]⟩, .slice none 0 0, .slice none 0 0] 27)).alloc (.cells #[.int .i64 6, .bool false, .bool false, .string ⟨#[]⟩, .int .i64 0, .string ⟨#[]⟩, .slice (some ⟨w.heap.size + 1, 0, none⟩) 2 2, .slice (some ⟨w.heap.size + 1 + 1, 0, none⟩) 2 2] 27)).alloc (.cells #[.string ⟨#[97]⟩, .string ⟨#[98]⟩] 9)).alloc (.cells #[.int .i64 2, .bool true, .bool false, .string ⟨#[]⟩, .int .i64 0, .string ⟨#[]⟩, .slice none 0 0, .slice none 0 0, .int .i64 2, .bool true, .bool false, .string ⟨#[]⟩, .int .i64 0, .string ⟨#[]⟩, .slice none 0 0, .slice none 0 0] 27)).alloc (.cells #[.int .i64 6, .bool false, .bool false, .string ⟨#[]⟩, .int .i64 0, .string ⟨#[]⟩, .slice (some ⟨w.heap.size + 1 + 1 + 1 + 1, 0, none⟩) 2 2, .slice (some ⟨w.heap.size + 1 + 1 + 1 + 1 + 1, 0, none⟩) 2 2] 27)) = W := ⟨_, rfl⟩
  have hz : W.heap.size = w.heap.size + 7 := by rw [← hW]; simp
  have bW : Below w.heap.size w W := by rw [← hW]; exact (((((((Below.refl _ w).alloc (by simp; try omega) _).alloc (by simp; try omega) _).alloc (by simp; try omega) _).alloc (by simp; try omega) _).alloc (by simp; try omega) _).alloc (by simp; try omega) _).alloc (by simp; try omega) _
  have q1 : W.heap[w.heap.size + 1]? = some (.cells #[.string ⟨#[97]⟩, .string ⟨#[97]⟩] 9 (0, 0)) := by
    rw [← hW]
    have := World.alloc_heap_new (w.alloc (.cells #[.int .i64 2, .bool true, .bool false, .string ⟨#[]⟩, .int .i64 0, .string ⟨#[]⟩, .slice none 0 0, .slice none 0 0] 27)) (.cells #[.string ⟨#[97]⟩, .string ⟨#[97]⟩] 9)
    simp only [World.size_alloc] at this
    exact new_of (new_of (new_of (new_of (new_of (this) _) _) _) _) _
  have q2 : W.heap[w.heap.size + 1 + 1]? = some (.cells #[.int .i64 2, .bool true, .bool false, .string ⟨#[]⟩, .int .i64 0, .string ⟨#[]⟩, .slice none 0 0, .slice none 0 0, .int .i64 2, .bool true, .bool false, .string ⟨#[]⟩, .int .i64 0, .string ⟨#[]⟩, .slice none 0 0, .slice none 0 0] 27 (0, 0)) := by
    rw [← hW]
    have := World.alloc_heap_new ((w.alloc (.cells #[.int .i64 2, .bool true, .bool false, .string ⟨#[]⟩, .int .i64 0, .string ⟨#[]⟩, .slice none 0 0, .slice none 0 0] 27)).alloc (.cells #[.string ⟨#[97]⟩, .string ⟨#[97]⟩] 9)) (.cells #[.int .i64 2, .bool true, .bool false, .string ⟨#[]⟩, .int .i64 0, .string ⟨#[]⟩, .slice none 0 0, .slice none 0 0, .int .i64 2, .bool true, .bool false, .string ⟨#[]⟩, .int .i64 0, .string ⟨#[]⟩, .slice none 0 0, .slice none 0 0] 27)
    simp only [World.size_alloc] at this
    exact new_of (new_of (new_of (new_of (this) _) _) _) _
  have q3 : W.heap[w.heap.size + 1 + 1 + 1]? = some (.cells #[.int .i64 6, .bool false, .bool false, .string ⟨#[]⟩, .int .i64 0, .string ⟨#[]⟩, .slice (some ⟨w.heap.size + 1, 0, none⟩) 2 2, .slice (some ⟨w.heap.size + 1 + 1, 0, none⟩) 2 2] 27 (0, 0)) := by
    rw [← hW]
    have := World.alloc_heap_new (((w.alloc (.cells #[.int .i64 2, .bool true, .bool false, .string ⟨#[]⟩, .int .i64 0, .string ⟨#[]⟩, .slice none 0 0, .slice none 0 0] 27)).alloc (.cells #[.string ⟨#[97]⟩, .string ⟨#[97]⟩] 9)).alloc (.cells #[.int .i64 2, .bool true, .bool false, .string ⟨#[]⟩, .int .i64 0, .string ⟨#[]⟩, .slice none 0 0, .slice none 0 0, .int .i64 2, .bool true, .bool false, .string ⟨#[]⟩, .int .i64 0, .string ⟨#[]⟩, .slice none 0 0, .slice none 0 0] 27)) (.cells #[.int .i64 6, .bool false, .bool false, .string ⟨#[]⟩, .int .i64 0, .string ⟨#[]⟩, .slice (some ⟨w.heap.size + 1, 0, none⟩) 2 2, .slice (some ⟨w.heap.size + 1 + 1, 0, none⟩) 2 2] 27)
    simp only [World.size_alloc] at this
    exact new_of (new_of (new_of (this) _) _) _
  have q4 : W.heap[w.heap.size + 1 + 1 + 1 + 1]? = some (.cells #[.string ⟨#[97]⟩, .string ⟨#[98]⟩] 9 (0, 0)) := by
    rw [← hW]
    have := World.alloc_heap_new ((((w.alloc (.cells #[.int .i64 2, .bool true, .bool false, .string ⟨#[]⟩, .int .i64 0, .string ⟨#[]⟩, .slice none 0 0, .slice none 0 0] 27)).alloc (.cells #[.string ⟨#[97]⟩, .string ⟨#[97]⟩] 9)).alloc (.cells #[.int .i64 2, .bool true, .bool false, .string ⟨#[]⟩, .int .i64 0, .string ⟨#[]⟩, .slice none 0 0, .slice none 0 0, .int .i64 2, .bool true, .bool false, .string ⟨#[]⟩, .int .i64 0, .string ⟨#[]⟩, .slice none 0 0, .slice none 0 0] 27)).alloc (.cells #[.int .i64 6, .bool false, .bool false, .string ⟨#[]⟩, .int .i64 0, .string ⟨#[]⟩, .slice (some ⟨w.heap.size + 1, 0, none⟩) 2 2, .slice (some ⟨w.heap.size + 1 + 1, 0, none⟩) 2 2] 27)) (.cells #[.string ⟨#[97]⟩, .string ⟨#[98]⟩] 9)
    simp only [World.size_alloc] at this
    exact new_of (new_of (this) _) _
  have q5 : W.heap[w.heap.size + 1 + 1 + 1 + 1 + 1]? = some (.cells #[.int .i64 2, .bool true, .bool false, .string ⟨#[]⟩, .int .i64 0, .string ⟨#[]⟩, .slice none 0 0, .slice none 0 0, .int .i64 2, .bool true, .bool false, .string ⟨#[]⟩, .int .i64 0, .string ⟨#[]⟩, .slice none 0 0, .slice none 0 0] 27 (0, 0)) := by
    rw [← hW]
    have := World.alloc_heap_new (((((w.alloc (.cells #[.int .i64 2, .bool true, .bool false, .string ⟨#[]⟩, .int .i64 0, .string ⟨#[]⟩, .slice none 0 0, .slice none 0 0] 27)).alloc (.cells #[.string ⟨#[97]⟩, .string ⟨#[97]⟩] 9)).alloc (.cells #[.int .i64 2, .bool true, .bool false, .string ⟨#[]⟩, .int .i64 0, .string ⟨#[]⟩, .slice none 0 0, .slice none 0 0, .int .i64 2, .bool true, .bool false, .string ⟨#[]⟩, .int .i64 0, .string ⟨#[]⟩, .slice none 0 0, .slice none 0 0] 27)).alloc (.cells #[.int .i64 6, .bool false, .bool false, .string ⟨#[]⟩, .int .i64 0, .string ⟨#[]⟩, .slice (some ⟨w.heap.size + 1, 0, none⟩) 2 2, .slice (some ⟨w.heap.size + 1 + 1, 0, none⟩) 2 2] 27)).alloc (.cells #[.string ⟨#[97]⟩, .string ⟨#[98]⟩] 9)) (.cells #[.int .i64 2, .bool true, .bool false, .string ⟨#[]⟩, .int .i64 0, .string ⟨#[]⟩, .slice none 0 0, .slice none 0 0, .int .i64 2, .bool true, .bool false, .string ⟨#[]⟩, .int .i64 0, .string ⟨#[]⟩, .slice none 0 0, .slice none 0 0] 27)
    simp only [World.size_alloc] at this
    exact new_of (this) _
  have q6 : W.heap[w.heap.size + 1 + 1 + 1 + 1 + 1 + 1]? = some (.cells #[.int .i64 6, .bool false, .bool false, .string ⟨#[]⟩, .int .i64 0, .string ⟨#[]⟩, .slice (some ⟨w.heap.size + 1 + 1 + 1 + 1, 0, none⟩) 2 2, .slice (some ⟨w.heap.size + 1 + 1 + 1 + 1 + 1, 0, none⟩) 2 2] 27 (0, 0)) := by
    rw [← hW]
    have := World.alloc_heap_new ((((((w.alloc (.cells #[.int .i64 2, .bool true, .bool false, .string ⟨#[]⟩, .int .i64 0, .string ⟨#[]⟩, .slice none 0 0, .slice none 0 0] 27)).alloc (.cells #[.string ⟨#[97]⟩, .string ⟨#[97]⟩] 9)).alloc (.cells #[.int .i64 2, .bool true, .bool false, .string ⟨#[]⟩, .int .i64 0, .string ⟨#[]⟩, .slice none 0 0, .slice none 0 0, .int .i64 2, .bool true, .bool false, .string ⟨#[]⟩, .int .i64 0, .string ⟨#[]⟩, .slice none 0 0, .slice none 0 0] 27)).alloc (.cells #[.int .i64 6, .bool false, .bool false, .string ⟨#[]⟩, .int .i64 0, .string ⟨#[]⟩, .slice (some ⟨w.heap.size + 1, 0, none⟩) 2 2, .slice (some ⟨w.heap.size + 1 + 1, 0, none⟩) 2 2] 27)).alloc (.cells #[.string ⟨#[97]⟩, .string ⟨#[98]⟩] 9)).alloc (.cells #[.int .i64 2, .bool true, .bool false, .string ⟨#[]⟩, .int .i64 0, .string ⟨#[]⟩, .slice none 0 0, .slice none 0 0, .int .i64 2, .bool true, .bool false, .string ⟨#[]⟩, .int .i64 0, .string ⟨#[]⟩, .slice none 0 0, .slice none 0 0] 27)) (.cells #[.int .i64 6, .bool false, .bool false, .string ⟨#[]⟩, .int .i64 0, .string ⟨#[]⟩, .slice (some ⟨w.heap.size + 1 + 1 + 1 + 1, 0, none⟩) 2 2, .slice (some ⟨w.heap.size + 1 + 1 + 1 + 1 + 1, 0, none⟩) 2 2] 27)
    simp only [World.size_alloc] at this
    exact this
  have H1 := fun wx (hb : Below W.heap.size W wx) => tright_any (ho.below (bW.trans (hb.mono bW.size))) (mild_obj (p := [97]) (q := [97]) (by simp) (by simp)) ((hold_obj (p := [97]) (q := [97]) q1 q2).below hb)
  have H2 := fun wx (hb : Below W.heap.size W wx) => tright_any (ho.below (bW.trans (hb.mono bW.size))) (mild_obj (p := [97]) (q := [98]) (by simp) (by simp)) ((hold_obj (p := [97]) (q := [98]) q4 q5).below hb)
  have H3 := fun wx (h : Ok wx) => tdeep_any h mild_list (hold_list wx)
  have HW := Lib.hid hW
  clear hW
  go_enter Tryd.func8, Tryd.ntmps8
  go_wp2_with fail
  rw [HW.out]
  refine (H1 _ (Below.refl _ _)).mono ?_
  rintro e w1 ⟨⟨r1, rfl, hr1⟩, k1⟩
  have e1 : r1 = false := by
    cases r1 with
    | false => rfl
    | true => exact absurd (hr1.1 rfl) wrong_obj
  subst e1
  have q6' := (k1.block _ (lt_of_heap q6)).trans q6
  obtain ⟨c0, c1, c2, c3, c4, c5, c6, c7⟩ := eight q6'
  clear hr1
  go_wp2_with fail
  refine (H2 _ k1).mono ?_
  rintro e w2 ⟨⟨r2, rfl, hr2⟩, k2⟩
  have e2 := hr2.2 right_obj
  subst e2
  have b2 := (bW.trans (k1.mono bW.size)).trans (k2.mono (Nat.le_trans bW.size k1.size))
  clear hr2
  go_wp2_with fail
  refine (H3 _ (ho.below b2)).mono ?_
  rintro e w3 ⟨rfl, k3⟩
  have e3 : deep vList = 1 := by decide
  rw [e3]
  go_wp2_with fail
  go_ret
  exact ⟨rfl, b2.trans (k3.mono b2.size)⟩
end Go.Proofs.YtjekannajnkejaaDoor.Tre
