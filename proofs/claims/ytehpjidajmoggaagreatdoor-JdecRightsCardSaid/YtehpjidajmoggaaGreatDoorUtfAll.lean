/- The contracts of utf.All: the function value that it answers tells each scalar's place and itself, in order, until it is asked to stop. Nothing is claimed here. -/
import Derived.Test.YtehpjidajmoggaaGreatDoorUtfDec
import Derived.RangeFuncNested
import Derived.RangeFuncBound
import Derived.RangeFuncCalls
import Derived.RangeFuncLeaves
import Derived.RangeFuncBox
import Derived.Shelf.Abstract
import Derived.OwnWalkIn
import Derived.TacticsInMore
import Derived.LoopNIn
import Derived.LoopIn
import Derived.Maps.AppendAt
import Derived.Lib.Hide
namespace Go.Proofs.YtehpjidajmoggaaGreatDoor.Utf
open Go.RowKit Kit Go.Shelf
attribute [local go_sem] Oper.semAt_some

theorem grown_of_below {w w' : World} (h : Below w.heap.size w w') : w.grownBy w' none := ⟨h.os, h.tape, h.output, h.size, fun k hk _ => h.block k hk⟩

def encs (x : Nat × Nat) : Array Value := #[.int .i64 x.1, .int .i64 x.2]

theorem scan_take {l : List UInt8} {k : Nat} (hk : k ≤ l.length) : (scan k (l.drop k)).1.length ≤ l.length := by
  have := scan_len (l.drop k) k
  rw [List.length_drop] at this
  omega

/-- What a round must keep: what lay below n₀, and the box in which the string lies. -/
def Kept (n₀ Bn : Nat) (A B : World) : Prop := Below n₀ A B ∧ B.heap[Bn]? = A.heap[Bn]?
theorem Kept.refl (n₀ Bn : Nat) (A : World) : Kept n₀ Bn A A := ⟨Below.refl _ _, rfl⟩
theorem Kept.trans {n₀ Bn : Nat} {A B C : World} (h : Kept n₀ Bn A B) (k : Kept n₀ Bn B C) : Kept n₀ Bn A C := ⟨h.1.trans k.1, k.2.trans h.2⟩
theorem Kept.of_below {n₀ Bn : Nat} {A B : World} (h : Below A.heap.size A B) (hn : n₀ ≤ A.heap.size) (hB : Bn < A.heap.size) : Kept n₀ Bn A B := ⟨h.mono hn, h.block _ hB⟩
theorem keptK_b {n₀ Bn : Nat} {w : World} (hn : n₀ ≤ w.heap.size) (hB : Bn < w.heap.size) (W : World) (l : Nat) (o o' : Obj) (hl : w.heap.size ≤ l) (h : W.heap[l]? = some o) (h1 : o.isCells = false) (h2 : o.isWalk = false) : Kept n₀ Bn W (W.putObj l o') :=
  ⟨belowK_b hn W l o o' hl h h1 h2, (grownBy_putObj' W l o').block Bn (by have := (Array.getElem?_eq_some_iff.1 h).1; omega) (fun e => by cases e; omega)⟩

set_option maxRecDepth 100000 in
set_option maxHeartbeats 2000000 in
/-- The function that All answers, called: whatever the loop's body does, so long as it keeps what lay below n₀ and the string's box. -/
theorem all1_in (n : Nat) (hn : 1 ≤ n) (l Bn n₀ : Nat) (s : ByteArray) (hs : s.size < 4611686018427387904) (J Jx : List (Nat × Nat) → World → Prop)
    (W : World) (hBn : W.heap[Bn]? = some (.cells #[.string s] 9 (0, 0))) (hl : Laid W) (hg : 4 < n₀) (hW : n₀ ≤ W.heap.size) (hJ : AbidesFrom W.heap.size J)
    (hY : ∀ pre x W1, J pre W1 → pre.length < (all s.data.toList).length → YieldAt Fence.wide (n - 1) Tryz.prog l (encs x) W1 fun e W' =>
      (e = .returned (.bool true) ∧ J (pre ++ [x]) W' ∧ Kept n₀ Bn W1 W') ∨ (e = .returned (.bool false) ∧ Jx (pre ++ [x]) W'))
    (h0 : J [] W) :
    CallsIn Fence.wide n Tryz.prog 109 #[.func (.yield l) #[] #[], .pointer (some ⟨Bn, 0, none⟩)] W fun e W' => (∃ v, e = .returned v) ∧
      ((∃ ys, ys = all s.data.toList ∧ J ys W') ∨ (∃ pre, pre <+: all s.data.toList ∧ Jx pre W')) := by
  have hlen : s.data.toList.length = s.size := by simp
  refine callsIn_of_wp Tryz.func109 rfl trivial ?_ rfl
  simp only [Tryz.ntmps109, List.size_toArray, List.length_cons, List.length_nil, Nat.reduceAdd, Nat.reduceSub, Array.replicate_succ, Array.replicate_zero, List.push_toArray, List.append_toArray, List.nil_append, List.cons_append]
  gi_wp2
  gi_loopw [3] (fun i wr => ∃ (k : Nat) (pre : List (Nat × Nat)), k ≤ s.size ∧ i = .int .i64 k ∧ all s.data.toList = pre ++ (scan k (s.data.toList.drop k)).1 ∧ Kept n₀ Bn W wr ∧ J pre wr)
    (fun i _ => s.size - (intOf i).toNat)
  case atStart =>
    exact ⟨0, [], Nat.zero_le _, rfl, rfl, Kept.refl _ _ _, h0⟩
  case round =>
    obtain ⟨k, pre, hk, rfl, hall, hbel, hJs⟩ := hrel
    have hlr := hl.below hbel.1 hg
    have hcs : wr.cell? ⟨Bn, 0, none⟩ = some (.string s) := cell_of (hbel.2.trans hBn) 0
    have hBw : Bn < wr.heap.size := lt_of_heap (hbel.2.trans hBn)
    by_cases hlt : k < s.size
    · have hks : (k : Int) < (s.size : Int) := by omega
      have hx : 0 < (s.extract k s.size).size := by simp; omega
      have hd := decode_any hx hlr
      rw [extract_rest] at hd
      rcases scan_at (l := s.data.toList) (by omega : k < s.data.toList.length) with ⟨z0, hr⟩ | ⟨z0, z1, z2, hr⟩
      · rw [hr] at hall
        gi_wp2_with (refine ⟨trivial, ?_⟩; gi_at_call 110; refine (callsIn_wide.2 hd).mono ?_; rintro e w1 ⟨rfl, b1⟩)
        refine ⟨fun _ h => (by cases h), ?_⟩
        gi_wp2
        refine bodyPost_ret (results_none rfl _ _ _) rfl ?_
        exact ⟨⟨_, rfl⟩, .inl ⟨pre, by rw [hall, List.append_nil], hJ _ _ _ _ hJs (grown_of_below b1) (fun r e => by cases e)⟩⟩
      · rw [hr] at hall
        have hpl : pre.length < (all s.data.toList).length := by rw [hall]; simp
        gi_wp2_with (refine ⟨trivial, ?_⟩; gi_at_call 110; refine (callsIn_wide.2 hd).mono ?_; rintro e w1 ⟨rfl, b1⟩; have hJ1 : J pre w1 := hJ _ _ _ _ hJs (grown_of_below b1) (fun r e => by cases e); obtain ⟨fn, tmps, assign, body, hy, hR⟩ := hY pre (k, (one (s.data.toList.drop k)).1) w1 hJ1 hpl; dsimp only [encs] at hy)
        refine hR.mono ?_
        rintro e W3 (⟨rfl, hJ3, hk3⟩ | ⟨rfl, hJx3⟩)
        · gi_wp2
          go_roundw
          case rel => exact ⟨k + (one (s.data.toList.drop k)).2, pre ++ [(k, (one (s.data.toList.drop k)).1)], by omega, by go_num, by rw [hall]; simp, hbel.trans ((Kept.of_below b1 (Nat.le_trans hW hbel.1.size) hBw).trans hk3), hJ3⟩
          case measure => simp [intOf]; omega
        · gi_wp2
          refine bodyPost_ret (results_none rfl _ _ _) rfl ?_
          exact ⟨⟨_, rfl⟩, .inr ⟨pre ++ [(k, (one (s.data.toList.drop k)).1)], by rw [hall]; exact ⟨_, by simp; rfl⟩, hJx3⟩⟩
    · obtain rfl : k = s.size := by omega
      have e0 : s.data.toList.drop s.size = [] := List.drop_eq_nil_of_le (by omega)
      rw [e0, scan_nil, List.append_nil] at hall
      gi_wp2
      go_end0
      exact ⟨⟨_, rfl⟩, .inl ⟨pre, hall.symm, hJs⟩⟩

set_option maxRecDepth 100000 in
set_option maxHeartbeats 2000000 in
/-- The same, each element with the fact that it is one of those that are told: whatever the loop's body does, so long as it keeps what lay below n₀ and the string's box. -/
theorem all1_sub (n : Nat) (hn : 1 ≤ n) (l Bn n₀ : Nat) (s : ByteArray) (hs : s.size < 4611686018427387904) (J Jx : List {x // x ∈ all s.data.toList} → World → Prop)
    (W : World) (hBn : W.heap[Bn]? = some (.cells #[.string s] 9 (0, 0))) (hl : Laid W) (hg : 4 < n₀) (hW : n₀ ≤ W.heap.size) (hJ : AbidesFrom W.heap.size J)
    (hY : ∀ pre x W1, J pre W1 → pre.length < (all s.data.toList).length → YieldAt Fence.wide (n - 1) Tryz.prog l (encs x.val) W1 fun e W' =>
      (e = .returned (.bool true) ∧ J (pre ++ [x]) W' ∧ Kept n₀ Bn W1 W') ∨ (e = .returned (.bool false) ∧ Jx (pre ++ [x]) W'))
    (h0 : J [] W) :
    CallsIn Fence.wide n Tryz.prog 109 #[.func (.yield l) #[] #[], .pointer (some ⟨Bn, 0, none⟩)] W fun e W' => (∃ v, e = .returned v) ∧
      ((∃ ys, ys.map Subtype.val = all s.data.toList ∧ J ys W') ∨ (∃ pre, pre.map Subtype.val <+: all s.data.toList ∧ Jx pre W')) := by
  have hlen : s.data.toList.length = s.size := by simp
  refine callsIn_of_wp Tryz.func109 rfl trivial ?_ rfl
  simp only [Tryz.ntmps109, List.size_toArray, List.length_cons, List.length_nil, Nat.reduceAdd, Nat.reduceSub, Array.replicate_succ, Array.replicate_zero, List.push_toArray, List.append_toArray, List.nil_append, List.cons_append]
  gi_wp2
  gi_loopw [3] (fun i wr => ∃ (k : Nat) (pre : List {x // x ∈ all s.data.toList}), k ≤ s.size ∧ i = .int .i64 k ∧ all s.data.toList = pre.map Subtype.val ++ (scan k (s.data.toList.drop k)).1 ∧ Kept n₀ Bn W wr ∧ J pre wr)
    (fun i _ => s.size - (intOf i).toNat)
  case atStart =>
    exact ⟨0, [], Nat.zero_le _, rfl, rfl, Kept.refl _ _ _, h0⟩
  case round =>
    obtain ⟨k, pre, hk, rfl, hall, hbel, hJs⟩ := hrel
    have hlr := hl.below hbel.1 hg
    have hcs : wr.cell? ⟨Bn, 0, none⟩ = some (.string s) := cell_of (hbel.2.trans hBn) 0
    have hBw : Bn < wr.heap.size := lt_of_heap (hbel.2.trans hBn)
    by_cases hlt : k < s.size
    · have hks : (k : Int) < (s.size : Int) := by omega
      have hx : 0 < (s.extract k s.size).size := by simp; omega
      have hd := decode_any hx hlr
      rw [extract_rest] at hd
      rcases scan_at (l := s.data.toList) (by omega : k < s.data.toList.length) with ⟨z0, hr⟩ | ⟨z0, z1, z2, hr⟩
      · rw [hr] at hall
        gi_wp2_with (refine ⟨trivial, ?_⟩; gi_at_call 110; refine (callsIn_wide.2 hd).mono ?_; rintro e w1 ⟨rfl, b1⟩)
        refine ⟨fun _ h => (by cases h), ?_⟩
        gi_wp2
        refine bodyPost_ret (results_none rfl _ _ _) rfl ?_
        exact ⟨⟨_, rfl⟩, .inl ⟨pre, by rw [List.append_nil] at hall; exact hall.symm, hJ _ _ _ _ hJs (grown_of_below b1) (fun r e => by cases e)⟩⟩
      · rw [hr] at hall
        have hpl : pre.length < (all s.data.toList).length := by
          have := congrArg List.length hall
          simp only [List.length_append, List.length_map, List.length_cons] at this
          omega
        have hmem : (k, (one (s.data.toList.drop k)).1) ∈ all s.data.toList := by rw [hall]; simp
        have hA := Lib.hid hall
        clear hall
        gi_wp2_with (refine ⟨trivial, ?_⟩; gi_at_call 110; refine (callsIn_wide.2 hd).mono ?_; rintro e w1 ⟨rfl, b1⟩; have hJ1 : J pre w1 := hJ _ _ _ _ hJs (grown_of_below b1) (fun r e => by cases e); obtain ⟨fn, tmps, assign, body, hy, hR⟩ := hY pre ⟨(k, (one (s.data.toList.drop k)).1), hmem⟩ w1 hJ1 hpl; dsimp only [encs] at hy)
        refine hR.mono ?_
        rintro e W3 (⟨rfl, hJ3, hk3⟩ | ⟨rfl, hJx3⟩)
        · gi_wp2
          go_roundw
          case rel => exact ⟨k + (one (s.data.toList.drop k)).2, pre ++ [⟨(k, (one (s.data.toList.drop k)).1), hmem⟩], by omega, by go_num, by rw [List.map_append, List.append_assoc]; exact hA.out, hbel.trans ((Kept.of_below b1 (Nat.le_trans hW hbel.1.size) hBw).trans hk3), hJ3⟩
          case measure => simp [intOf]; omega
        · gi_wp2
          refine bodyPost_ret (results_none rfl _ _ _) rfl ?_
          exact ⟨⟨_, rfl⟩, .inr ⟨pre ++ [⟨(k, (one (s.data.toList.drop k)).1), hmem⟩], ⟨_, by rw [List.map_append, List.append_assoc]; exact hA.out.symm⟩, hJx3⟩⟩
    · obtain rfl : k = s.size := by omega
      have e0 : s.data.toList.drop s.size = [] := List.drop_eq_nil_of_le (by omega)
      rw [e0, scan_nil, List.append_nil] at hall
      gi_wp2
      go_end0
      exact ⟨⟨_, rfl⟩, .inl ⟨pre, hall.symm, hJs⟩⟩

set_option maxHeartbeats 1000000 in
/-- All: the string is boxed, and the function value holds the box. -/
theorem all_any (n : Nat) (s : ByteArray) (w : World) :
    CallsIn Fence.wide n Tryz.prog 93 #[.string s] w fun e w' => e = .returned (.func (.func 109) #[] #[.pointer (some ⟨w.heap.size, 0, none⟩)]) ∧ w.alloc (.cells #[.string s] 9) = w' := by
  refine callsIn_of_wp Tryz.func93 rfl trivial ?_ rfl
  simp only [Tryz.ntmps93, List.size_toArray, List.length_cons, List.length_nil, Nat.reduceAdd, Nat.reduceSub, Array.replicate_succ, Array.replicate_zero, List.push_toArray, List.append_toArray, List.nil_append, List.cons_append]
  gi_wp2
  go_ret
  exact ⟨rfl, rfl⟩

/-- What All answers tells all scalars in their order; or a beginning of them, where a round has said 'no more'. -/
theorem all_stops (n : Nat) (hn : 1 ≤ n) (Bn n₀ : Nat) (s : ByteArray) (hs : s.size < 4611686018427387904) (w : World) (hn₀ : n₀ ≤ w.heap.size) (hg : 4 < n₀) (hl : Laid w)
    (hc : w.heap[Bn]? = some (.cells #[.string s] 9 (0, 0))) :
    SeqStopsK Fence.wide n Tryz.prog 109 #[.pointer (some ⟨Bn, 0, none⟩)] encs (Kept n₀ Bn) (fun ys => ys = all s.data.toList) (fun pre => pre <+: all s.data.toList) (all s.data.toList).length w := fun l J Jx W hW hJ _ hY h0 =>
  all1_in n hn l Bn n₀ s hs J Jx W ((hW.block _ (lt_of_heap hc)).trans hc) (hl.below hW hl.lt) hg (Nat.le_trans hn₀ hW.size) hJ hY h0
/-- All the same, over the elements that are told indeed. -/
theorem all_stops_sub (n : Nat) (hn : 1 ≤ n) (Bn n₀ : Nat) (s : ByteArray) (hs : s.size < 4611686018427387904) (w : World) (hn₀ : n₀ ≤ w.heap.size) (hg : 4 < n₀) (hl : Laid w)
    (hc : w.heap[Bn]? = some (.cells #[.string s] 9 (0, 0))) :
    SeqStopsK Fence.wide n Tryz.prog 109 #[.pointer (some ⟨Bn, 0, none⟩)] (fun x : {x // x ∈ all s.data.toList} => encs x.val) (Kept n₀ Bn) (fun ys => ys.map Subtype.val = all s.data.toList) (fun pre => pre.map Subtype.val <+: all s.data.toList) (all s.data.toList).length w := fun l J Jx W hW hJ _ hY h0 =>
  all1_sub n hn l Bn n₀ s hs J Jx W ((hW.block _ (lt_of_heap hc)).trans hc) (hl.below hW hl.lt) hg (Nat.le_trans hn₀ hW.size) hJ hY h0
/-- A scalar's place lies within. -/
theorem scan_place : ∀ (m : Nat) (l : List UInt8), l.length = m → ∀ (p : Nat), ∀ x ∈ (scan p l).1, x.1 < p + l.length := by
  intro m
  induction m using Nat.strongRecOn with
  | ind m ih =>
    intro l hl p x hx
    rcases scan_cases l with rfl | ⟨hne, h0⟩ | ⟨d, r, hd, rfl, ho, hr⟩
    · rw [scan_nil] at hx
      simp at hx
    · rw [scan_bad hne h0] at hx
      simp at hx
    · rw [scan_enc hd r] at hx
      have hl4 := enc_len (c := d)
      rw [List.length_append] at hl ⊢
      rcases List.mem_cons.1 hx with rfl | hx
      · dsimp only
        omega
      · have := ih r.length (by omega) r rfl _ x hx
        omega
theorem all_place {l : List UInt8} {x : Nat × Nat} (h : x ∈ all l) : x.1 < l.length := by
  have := scan_place l.length l rfl 0 x h
  omega
end Go.Proofs.YtehpjidajmoggaaGreatDoor.Utf
