/- The contracts of varint.All: the function value that it answers tells the numbers in order, until it is asked to stop. Nothing is claimed here. -/
import Derived.Test.YtgckfndjbhjjoaaVarRows
import Derived.Test.YtgckfndjbhjjoaaVarFn
import Derived.RangeFuncNested
import Derived.RangeFuncBound
import Derived.RangeFuncCalls
import Derived.RangeFuncLeaves
import Derived.RangeFuncBox
import Derived.Shelf.Abstract
import Derived.OwnWalkIn
import Derived.TacticsInMore
import Derived.LoopNIn
import Derived.LoopIn
import Derived.Maps.AppendAt
namespace Go.Proofs.Ytgckfndjbhjjoaa.Var
open Go.RowKit Kit Byt Go.Shelf
attribute [local go_sem] Oper.semAt_some

theorem grown_of_below {w w' : World} (h : Below w.heap.size w w') : w.grownBy w' none := ⟨h.os, h.tape, h.output, h.size, fun k hk _ => h.block k hk⟩

def encs (x : Nat) : Array Value := #[.int .u64 x]
/-- 'append(v, b...)' inside the fence. -/
theorem wpListIn_append_bytes {F : Fence} {n : Nat} {ops : Array Oper} {rest : List Oper} {o : Oper} {a : Act} {w : World} {Q : Exit → Act → World → Prop} (hgd : o.guard = none) (s x : Operand)
    (ho : o.op = .call { callee := .builtin .append, args := #[s, x], argTypes := #[23, 23] }) (base : Nat) {v u : Value} {k : Nat} {xs : List Value} {l : List Nat} (hs : a.eval s = v) (hx : a.eval x = u)
    (hown : w.ownsRow base 5 1 v k xs) (hb : Bs w u l) (h63 : k + l.length ≤ 1000000000000) (hbase : base ≤ w.heap.size)
    (h : ∀ v' w', w'.ownsRow base 5 1 v' (k + l.length) (xs ++ bytesV l) → w.grownBy w' v.ownBlock → wpListIn F n Try.prog ops Q rest (a.put o.dst v') w') : wpListIn F n Try.prog ops Q (o :: rest) a w := by
  refine wpListIn_plain hgd fun K hK => ?_
  obtain ⟨v', w', hr, h2, h3⟩ := append_bytes w base o.type hown hb h63 hbase
  subst hs; subst hx
  unfold Oper.wpIn
  refine ⟨?_, ?_⟩
  · simp [Oper.about, ho, resolve, Target.leads, Sem.run_pure]
  · rw [Oper.semAt_plain F _ _ (by rw [ho]; intro c hc'; cases hc')]
    simp [execOp, ho, resolve, invoke, builtin, hr, Result.andThen]
    exact hK _ _ (h v' w' h2 h3)

/-- What a round must keep: what lay below n₀, and the blocks from lo to hi (the box, and what it holds). -/
def Kept (n₀ lo hi : Nat) (A B : World) : Prop := Below n₀ A B ∧ ∀ k, lo ≤ k → k < hi → B.heap[k]? = A.heap[k]?
theorem Kept.refl (n₀ lo hi : Nat) (A : World) : Kept n₀ lo hi A A := ⟨Below.refl _ _, fun _ _ _ => rfl⟩
theorem Kept.trans {n₀ lo hi : Nat} {A B C : World} (h : Kept n₀ lo hi A B) (k : Kept n₀ lo hi B C) : Kept n₀ lo hi A C := ⟨h.1.trans k.1, fun j h1 h2 => (k.2 j h1 h2).trans (h.2 j h1 h2)⟩
theorem Kept.of_below {n₀ lo hi : Nat} {A B : World} (h : Below A.heap.size A B) (hn : n₀ ≤ A.heap.size) (hB : hi ≤ A.heap.size) : Kept n₀ lo hi A B := ⟨h.mono hn, fun j _ h2 => h.block _ (by omega)⟩
theorem keptK_b {n₀ lo hi : Nat} {w : World} (hn : n₀ ≤ w.heap.size) (hB : hi ≤ w.heap.size) (W : World) (l : Nat) (o o' : Obj) (hl : w.heap.size ≤ l) (h : W.heap[l]? = some o) (h1 : o.isCells = false) (h2 : o.isWalk = false) : Kept n₀ lo hi W (W.putObj l o') :=
  ⟨belowK_b hn W l o o' hl h h1 h2, fun j _ hj => (grownBy_putObj' W l o').block j (by have := (Array.getElem?_eq_some_iff.1 h).1; omega) (fun e => by cases e; omega)⟩

/-- What a slice of the call's own holds it holds wherever its block lies as it lay. -/
theorem bs_kept {w : World} {lo : Nat} {v : Value} {l : List Nat} (hb : ∀ b ∈ l, b < 256) (h : w.ownsRow lo 5 1 v l.length (bytesV l)) (W : World) (hk : ∀ k, lo ≤ k → k < w.heap.size → W.heap[k]? = w.heap[k]?) : Bs W v l := by
  refine bs_of_own hb (base := lo) ⟨h.1, ?_⟩
  rcases h.2 with h | ⟨g, cap, cur, e, hg, hc, rest⟩
  · exact .inl h
  · exact .inr ⟨g, cap, cur, e, hg, (hk g hg (lt_of_heap hc)).trans hc, rest⟩

set_option maxRecDepth 100000 in
set_option maxHeartbeats 2000000 in
/-- The function that All answers, called: whatever the loop's body does, so long as it keeps what lay below n₀, the box and what it holds. -/
theorem all1_in (n : Nat) (hn : 1 ≤ n) (l Bn n₀ lo hi : Nat) (w0 : World) (hw0 : w0.heap.size = hi) (hBn0 : lo ≤ Bn ∧ Bn < hi) {a : Option Addr} {len c : Nat} {L : List Nat} (hlen : L.length = len) (hx : ∀ W : World, (∀ k, lo ≤ k → k < hi → W.heap[k]? = w0.heap[k]?) → Bs W (.slice a len c) L) (hs : len < 1000000) (J Jx : List Nat → World → Prop)
    (W : World) (hBn : w0.heap[Bn]? = some (.cells #[.slice a len c] 23 (0, 0))) (hW0 : Below hi w0 W) (hn₀ : n₀ ≤ hi) (hJ : AbidesFrom W.heap.size J)
    (hY : ∀ pre x W1, J pre W1 → pre.length < (all L).length → YieldAt Fence.wide (n - 1) Try.prog l (encs x) W1 fun e W' =>
      (e = .returned (.bool true) ∧ J (pre ++ [x]) W' ∧ Kept n₀ lo hi W1 W') ∨ (e = .returned (.bool false) ∧ Jx (pre ++ [x]) W'))
    (h0 : J [] W) :
    CallsIn Fence.wide n Try.prog 22 #[.func (.yield l) #[] #[], .pointer (some ⟨Bn, 0, none⟩)] W fun e W' => (∃ v, e = .returned v) ∧
      ((∃ ys, ys = all L ∧ J ys W') ∨ (∃ pre, pre <+: all L ∧ Jx pre W')) := by
  have hWs : hi ≤ W.heap.size := by have := hW0.size; omega
  refine callsIn_of_wp Try.func22 rfl trivial ?_ rfl
  simp only [Try.ntmps22, List.size_toArray, List.length_cons, List.length_nil, Nat.reduceAdd, Nat.reduceSub, Array.replicate_succ, Array.replicate_zero, List.push_toArray, List.append_toArray, List.nil_append, List.cons_append]
  gi_wp2
  gi_loopw [3] (fun r wr => ∃ (k : Nat) (pre : List Nat), k ≤ len ∧ r = .int .i64 k ∧ all L = pre ++ all (L.drop k) ∧ Kept n₀ lo hi W wr ∧ J pre wr)
    (fun r _ => len - (intOf r).toNat)
  case atStart =>
    exact ⟨0, [], Nat.zero_le _, rfl, rfl, Kept.refl _ _ _ _, h0⟩
  case round =>
    obtain ⟨k, pre, hk, rfl, hall, hbel, hJs⟩ := hrel
    have hws : hi ≤ wr.heap.size := by have := hbel.1.size; omega
    have hall0 : ∀ j, lo ≤ j → j < hi → wr.heap[j]? = w0.heap[j]? := fun j h1 h2 => (hbel.2 j h1 h2).trans (hW0.block j h2)
    have hcs : wr.cell? ⟨Bn, 0, none⟩ = some (.slice a len c) := cell_of ((hall0 Bn hBn0.1 hBn0.2).trans hBn) 0
    have hxr := hx wr hall0
    have hn₀w : n₀ ≤ wr.heap.size := by omega
    clear hall0
    by_cases hlt : k < len
    · have hlt' : (k : Int) < (len : Int) := by omega
      have hkl : (L.drop k).length = len - k := by rw [List.length_drop, hlen]
      have hor := get_or (L.drop k)
      have hstop := all_stop (l := L.drop k)
      have hon := all_on (l := L.drop k)
      obtain ⟨N, S, E, hg⟩ : ∃ N S E, get (L.drop k) = (N, S, E) := ⟨_, _, _, rfl⟩
      obtain ⟨a2, c2, hsl, hx2⟩ := slice_from hxr (m := k) (by omega)
      have hd := get_is hg hx2 (by omega)
      rw [hg] at hor hstop hon
      dsimp only at hor hstop hon
      rw [hkl] at hor
      clear hx2 hxr
      have hend : (((E : Int) != 0) = true ∧ E ≠ 0) ∨ (E = 0 ∧ 0 < S ∧ k + S ≤ len) := by
        simp
        omega
      have H0 := Lib.hid hall
      have H1 := Lib.hid hstop
      have H2 := Lib.hid hon
      have H3 := Lib.hid hg
      clear hall hstop hon hg hor hkl
      rcases hend with ⟨h0, h0'⟩ | ⟨rfl, hS, hkS⟩
      · gi_wp2_with (refine ⟨trivial, ?_⟩; gi_at_call 10; refine (callsIn_wide.2 hd).mono ?_; rintro e w1 ⟨rfl, b1⟩)
        refine ⟨fun _ h => (by cases h), ?_⟩
        gi_wp2
        first
          | refine bodyPost_ret (results_none rfl _ _ _) rfl ?_
          | go_end0
        exact ⟨⟨_, rfl⟩, .inl ⟨pre, by rw [H0.out, H1.out h0', List.append_nil], hJ _ _ _ _ hJs (grown_of_below b1) (fun r e => by cases e)⟩⟩
      · have hpl : pre.length < (all L).length := by rw [H0.out, H2.out rfl]; simp
        gi_wp2_with (refine ⟨trivial, ?_⟩; gi_at_call 10; refine (callsIn_wide.2 hd).mono ?_; rintro e w1 ⟨rfl, b1⟩; have hJ1 : J pre w1 := hJ _ _ _ _ hJs (grown_of_below b1) (fun r e => by cases e); obtain ⟨fn, tmps, assign, body, hy, hR⟩ := hY pre N w1 hJ1 hpl; dsimp only [encs] at hy)
        have hnext : all L = (pre ++ [N]) ++ all (L.drop (k + S)) := by rw [H0.out, H2.out trivial, List.append_assoc, List.drop_drop]; rfl
        have H4 := Lib.hid hnext
        clear hnext
        refine hR.mono ?_
        rintro e W3 (⟨rfl, hJ3, hk3⟩ | ⟨rfl, hJx3⟩)
        · gi_wp2
          go_roundw
          case rel => exact ⟨k + S, pre ++ [N], hkS, by go_num, H4.out, hbel.trans ((Kept.of_below b1 hn₀w hws).trans hk3), hJ3⟩
          case measure => simp [intOf]; omega
        · gi_wp2
          first
            | refine bodyPost_ret (results_none rfl _ _ _) rfl ?_
            | go_end0
          exact ⟨⟨_, rfl⟩, .inr ⟨pre ++ [N], by rw [H4.out]; exact ⟨_, rfl⟩, hJx3⟩⟩
    · obtain rfl : k = len := by omega
      have hnil : all (L.drop k) = [] := by rw [List.drop_eq_nil_of_le (by omega), all_stop (by decide)]
      have H0 := Lib.hid (show all L = pre by rw [hall, hnil, List.append_nil])
      clear hall hnil
      gi_wp2
      first
        | refine bodyPost_ret (results_none rfl _ _ _) rfl ?_
        | go_end0
      exact ⟨⟨_, rfl⟩, .inl ⟨pre, H0.out.symm, hJs⟩⟩

set_option maxRecDepth 100000 in
set_option maxHeartbeats 1000000 in
/-- All: the bytes are copied, the copy is boxed, and the function value holds the box. -/
theorem all_any (n : Nat) {a : Option Addr} {len c : Nat} {L : List Nat} (hlen : L.length = len) (hs : len < 1000000) (w : World) (hx : Bs w (.slice a len c) L) :
    CallsIn Fence.wide n Try.prog 20 #[.slice a len c] w fun e w' => ∃ Bn a' c', e = .returned (.func (.func 22) #[] #[.pointer (some ⟨Bn, 0, none⟩)]) ∧ w.heap.size ≤ Bn ∧ Bn < w'.heap.size ∧ w'.heap[Bn]? = some (.cells #[.slice a' len c'] 23 (0, 0)) ∧
      (∀ W : World, (∀ k, w.heap.size ≤ k → k < w'.heap.size → W.heap[k]? = w'.heap[k]?) → Bs W (.slice a' len c') L) ∧ Below w.heap.size w w' := by
  refine callsIn_of_wp Try.func20 rfl trivial ?_ rfl
  simp only [Try.ntmps20, List.size_toArray, List.length_cons, List.length_nil, Nat.reduceAdd, Nat.reduceSub, Array.replicate_succ, Array.replicate_zero, List.push_toArray, List.append_toArray, List.nil_append, List.cons_append]
  gi_wp2_with (gi_at_builtin; refine wpListIn_append_bytes rfl _ _ rfl w.heap.size rfl rfl (own_empty w w.heap.size (Nat.le_refl _)) (hx.below ((Below.refl _ w).alloc (Nat.le_refl _) _)) ?c3 ?c4 ?_)
  case c3 => omega
  case c4 => simp
  intro v2 w2 ho hg
  have hb := hx.1
  replace ho : w2.ownsRow w.heap.size 5 1 v2 L.length (bytesV L) := by rw [hlen]; simpa using ho
  have b2 : Below w.heap.size w w2 := ((Below.refl _ w).alloc (Nat.le_refl _) _).grown hg (by simp) (fun j e => by simp [Value.ownBlock] at e; omega)
  have hz := b2.size
  obtain ⟨va, vc, rfl, _⟩ := own_slice ho
  rw [hlen] at ho
  gi_wp2
  go_ret
  refine ⟨w2.heap.size, va, vc, rfl, hz, by simp, World.alloc_heap_new w2 _, fun W hk => ?_, b2.alloc hz _⟩
  have ho' := ho.alloc (.cells #[.slice va len vc] 23)
  rw [← hlen] at ho' hk ⊢
  exact bs_kept hb ho' W hk

/-- What All answers tells all numbers in their order; or a beginning of them, where a round has said 'no more'. -/
theorem all_stops (n : Nat) (hn : 1 ≤ n) (Bn n₀ lo hi : Nat) (w0 : World) (hw0 : w0.heap.size = hi) (hBn0 : lo ≤ Bn ∧ Bn < hi) {a : Option Addr} {len c : Nat} {L : List Nat} (hlen : L.length = len) (hx : ∀ W : World, (∀ k, lo ≤ k → k < hi → W.heap[k]? = w0.heap[k]?) → Bs W (.slice a len c) L) (hs : len < 1000000) (hn₀ : n₀ ≤ hi)
    (hc : w0.heap[Bn]? = some (.cells #[.slice a len c] 23 (0, 0))) :
    SeqStopsK Fence.wide n Try.prog 22 #[.pointer (some ⟨Bn, 0, none⟩)] encs (Kept n₀ lo hi) (fun ys => ys = all L) (fun pre => pre <+: all L) (all L).length w0 := fun l J Jx W hW hJ _ hY h0 =>
  all1_in n hn l Bn n₀ lo hi w0 hw0 hBn0 hlen hx hs J Jx W hc (hw0 ▸ hW) hn₀ hJ hY h0
end Go.Proofs.Ytgckfndjbhjjoaa.Var
