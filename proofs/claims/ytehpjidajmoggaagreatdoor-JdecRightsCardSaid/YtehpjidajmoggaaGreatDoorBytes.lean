/- Slices of bytes: what one holds, over calls and cuts; one appended to memory of the call's own; how an argument of that type is opened. Nothing is claimed here. -/
import Derived.Test.YtehpjidajmoggaaGreatDoorKit
import Derived.WalkSpells
import Derived.WalkLawsBesides
import Derived.Deep.AppendSrc
import Derived.RangeFuncBox
namespace Go.Proofs.YtehpjidajmoggaaGreatDoor.Byt
open Go.RowKit Kit Go.ChangeShapes Go.WideShapes

theorem choose_list {α : Type} {n : Nat} {R : Nat → α → Prop} (h : ∀ i, i < n → ∃ x, R i x) : ∃ xs : List α, xs.length = n ∧ ∀ i x, xs[i]? = some x → R i x := by
  induction n with
  | zero => exact ⟨[], rfl, fun i x h => by simp at h⟩
  | succ n ih =>
    obtain ⟨xs, hl, hx⟩ := ih fun i hi => h i (by omega)
    obtain ⟨y, hy⟩ := h n (by omega)
    refine ⟨xs ++ [y], by simp [hl], fun i x hi => ?_⟩
    by_cases hlt : i < n
    · rw [List.getElem?_append_left (by omega)] at hi
      exact hx i x hi
    · rw [List.getElem?_append_right (by omega)] at hi
      obtain ⟨k, hk⟩ : ∃ k, i - xs.length = k := ⟨_, rfl⟩
      rw [hk] at hi
      match k, hi with
      | 0, hi =>
        simp at hi
        subst hi
        obtain rfl : i = n := by omega
        exact hy
      | k + 1, hi => simp at hi

def bytesV (l : List Nat) : List Value := l.map fun x : Nat => .int .u8 (x : Int)
theorem bytesV_len (l : List Nat) : (bytesV l).length = l.length := by simp [bytesV]
theorem bytesV_app (a b : List Nat) : bytesV (a ++ b) = bytesV a ++ bytesV b := by simp [bytesV]
theorem bytesV_one (l : List Nat) : ∀ u ∈ bytesV l, u.oneCell' = true := by
  intro u hu
  obtain ⟨x, _, rfl⟩ := List.mem_map.1 hu
  rfl
theorem infoByte : (Tryz.prog.info? 5).map (fun i => (i.zero, i.size, i.bytes)) = some (some (.int .u8 0), 1, 1) := by kernel_rfl

/-- The slice v holds the bytes l. -/
def Bs (w : World) (v : Value) (l : List Nat) : Prop :=
  (∀ b ∈ l, b < 256) ∧ ∃ a c, v = .slice a l.length c ∧ l.length ≤ c ∧
    (l = [] ∨ ∃ g off, a = some ⟨g, off, none⟩ ∧ g < w.heap.size ∧ ∀ (i x : Nat), l[i]? = some x → w.cell? ⟨g, off + i, none⟩ = some (.int .u8 (x : Int)))

theorem Bs.below {w w' : World} {v : Value} {l : List Nat} (h : Bs w v l) (b : Below w.heap.size w w') : Bs w' v l := by
  obtain ⟨hb, a, c, rfl, hc, h⟩ := h
  refine ⟨hb, a, c, rfl, hc, ?_⟩
  rcases h with h | ⟨g, off, ha, hg, hx⟩
  · exact .inl h
  · exact .inr ⟨g, off, ha, Nat.lt_of_lt_of_le hg b.size, fun i x hi => (b.cell (p := ⟨g, off + i, none⟩) hg).trans (hx i x hi)⟩

theorem Bs.nil (w : World) : Bs w (.slice none 0 0) [] := ⟨by simp, none, 0, rfl, Nat.le_refl _, .inl rfl⟩

/-- The first m of them: 'b[:m]'. -/
theorem Bs.take {w : World} {a : Option Addr} {n c : Nat} {l : List Nat} (h : Bs w (.slice a n c) l) {m : Nat} (hm : m ≤ l.length) : Bs w (.slice a m c) (l.take m) := by
  obtain ⟨hb, a', c', he, hc, h⟩ := h
  injection he with e1 e2 e3
  subst e1; subst e3
  refine ⟨fun b hx => hb b (List.mem_of_mem_take hx), a, c, by rw [List.length_take, Nat.min_eq_left hm], by rw [List.length_take]; omega, ?_⟩
  rcases h with h | ⟨g, off, ha, hg, hx⟩
  · exact .inl (by rw [h]; simp)
  · refine .inr ⟨g, off, ha, hg, fun i x hi => hx i x ?_⟩
    rw [List.getElem?_take] at hi
    split at hi
    · exact hi
    · cases hi

/-- Those behind the first m: 'b[m:]' (of a slice that is not nil). -/
theorem Bs.drop {w : World} {g off n c : Nat} {l : List Nat} (h : Bs w (.slice (some ⟨g, off, none⟩) n c) l) {m : Nat} (hm : m ≤ l.length) : Bs w (.slice (some ⟨g, off + m, none⟩) (n - m) (c - m)) (l.drop m) := by
  obtain ⟨hb, a', c', he, hc, h⟩ := h
  injection he with e1 e2 e3
  subst e1; subst e2; subst e3
  refine ⟨fun b hx => hb b (List.mem_of_mem_drop hx), _, _, by rw [List.length_drop], by rw [List.length_drop]; omega, ?_⟩
  rcases h with h | ⟨g', off', ha, hg, hx⟩
  · exact .inl (by rw [h]; simp)
  · injection ha with ha
    injection ha with h1 h2
    subst h1; subst h2
    refine .inr ⟨g, off + m, rfl, hg, fun i x hi => ?_⟩
    rw [List.getElem?_drop] at hi
    have := hx (m + i) x hi
    rwa [← Nat.add_assoc] at this

/-- 'b[m:]', as the walk spells it: of any slice; and where the capacity ends there. -/
theorem Bs.rest {w : World} {a : Option Addr} {n c : Nat} {l : List Nat} (h : Bs w (.slice a n c) l) {m : Nat} (hm : m ≤ l.length) : Bs w (.slice (Option.map (fun x => x.add m) a) (n - m) (c - m)) (l.drop m) := by
  cases a with
  | none =>
    obtain ⟨hb, a', c', he, hc, h⟩ := h
    injection he with e1 e2 e3
    subst e1; subst e2; subst e3
    refine ⟨fun b hx => hb b (List.mem_of_mem_drop hx), _, _, by rw [List.length_drop], by rw [List.length_drop]; omega, ?_⟩
    rcases h with h | ⟨g', off', ha, _⟩
    · exact .inl (by rw [h]; simp)
    · cases ha
  | some ad =>
    by_cases hl : l = []
    · subst hl
      obtain ⟨_, a', c', he, hc, _⟩ := h
      injection he with e1 e2 e3
      subst e2; subst e3
      exact ⟨by simp, Option.map (fun x => x.add m) (some ad), c - m, by simp, by simp, .inl (by simp)⟩
    · obtain ⟨g, off, ha⟩ : ∃ g off, some ad = some ⟨g, off, none⟩ := by
        obtain ⟨_, a', c', he, _, h'⟩ := id h
        injection he with e1 _ _
        rcases h' with h' | ⟨g, off, h', _⟩
        · exact absurd h' hl
        · exact ⟨g, off, e1.trans h'⟩
      injection ha with ha
      subst ha
      have := h.drop hm
      rw [← Addr.add_lit g off m] at this
      exact this
theorem Bs.rest0 {w : World} {a : Option Addr} {n m : Nat} {l : List Nat} (h : Bs w (.slice a n m) l) (hm : m ≤ l.length) : Bs w (.slice a (n - m) 0) (l.drop m) := by
  obtain ⟨hb, a', c', he, hc, h⟩ := h
  injection he with e1 e2 e3
  subst e1; subst e2; subst e3
  have e : l.drop m = [] := List.drop_eq_nil_of_le (by omega)
  rw [e]
  exact ⟨by simp, a, 0, by rw [show l.length - m = 0 by omega]; rfl, Nat.le_refl _, .inl rfl⟩

/-- 'b[m:]' in one: the run's equation, to be laid ahead of a walk, and what it holds. -/
theorem slice_from {w : World} {a : Option Addr} {n c : Nat} {l : List Nat} (h : Bs w (.slice a n c) l) {m : Nat} (hm : m ≤ l.length) :
    ∃ a' c', (∀ wx : World, (Instr.sliceAt 101 (.slice a n c) (some (.int .i64 (m : Int))) none none).run Tryz.prog wx = .ok (.slice a' (n - m) c') wx) ∧ Bs w (.slice a' (n - m) c') (l.drop m) := by
  have hu : Tryz.prog.underlying 101 = some (.slice (Tryz.prog.elem 101)) := by kernel_rfl
  have he : Tryz.prog.elem 101 = 5 := by kernel_rfl
  have hz := Tryz.sizeOf5
  have hmn : (m : Int) ≤ (n : Int) := by
    obtain ⟨_, _, _, he, _, _⟩ := id h
    injection he with _ e2 _
    omega
  by_cases hc : c = m
  · subst hc
    refine ⟨a, 0, fun wx => ?_, h.rest0 hm⟩
    rw [run_sliceAt_slice _ _ _ _ _ _ hu, run_slice_l _ _ _ _ _ hu _ _ (by omega) hmn, he]
    simp [hz, sliced, Result.andThen]
  · refine ⟨Option.map (fun x => x.add m) a, c - m, fun wx => ?_, h.rest hm⟩
    rw [run_sliceAt_slice _ _ _ _ _ _ hu, run_slice_l _ _ _ _ _ hu _ _ (by omega) hmn, he]
    simp [hz, sliced, Result.andThen, hc]

/-- 'b[m:k]' in one: what it holds it holds in every world in which b does. -/
theorem slice_mid {w : World} {a : Option Addr} {n c : Nat} {l : List Nat} (h : Bs w (.slice a n c) l) {m k : Nat} {x y : Int} (hx : x = (m : Int)) (hy : y = (k : Int)) (hm : m ≤ k) (hk : k ≤ l.length) :
    ∃ a' c', (∀ wx : World, (Instr.sliceAt 101 (.slice a n c) (some (.int .i64 x)) (some (.int .i64 y)) none).run Tryz.prog wx = .ok (.slice a' (k - m) c') wx) ∧ ∀ wx : World, Bs wx (.slice a n c) l → Bs wx (.slice a' (k - m) c') ((l.drop m).take (k - m)) := by
  subst hx; subst hy
  have hu : Tryz.prog.underlying 101 = some (.slice (Tryz.prog.elem 101)) := by kernel_rfl
  have he : Tryz.prog.elem 101 = 5 := by kernel_rfl
  have hz := Tryz.sizeOf5
  have hkc : (k : Int) ≤ (c : Int) := by
    obtain ⟨_, _, _, he, hc, _⟩ := id h
    injection he with _ e2 e3
    omega
  by_cases hc : c = m
  · subst hc
    refine ⟨a, 0, fun wx => ?_, fun wx h => (h.rest0 (by omega)).take (m := k - c) (by rw [List.length_drop]; omega)⟩
    rw [run_sliceAt_slice _ _ _ _ _ _ hu, run_slice_lh _ _ _ _ _ hu _ _ _ _ (by omega) (by omega) hkc, he]
    simp [hz, sliced, Result.andThen]
  · refine ⟨Option.map (fun x => x.add m) a, c - m, fun wx => ?_, fun wx h => (h.rest (m := m) (by omega)).take (m := k - m) (by rw [List.length_drop]; omega)⟩
    rw [run_sliceAt_slice _ _ _ _ _ _ hu, run_slice_lh _ _ _ _ _ hu _ _ _ _ (by omega) (by omega) hkc, he]
    simp [hz, sliced, Result.andThen, hc]

theorem bs_of_own {w : World} {base : Nat} {v : Value} {l : List Nat} (hb : ∀ b ∈ l, b < 256) (h : w.ownsRow base 5 1 v l.length (bytesV l)) : Bs w v l := by
  rcases h.2 with ⟨rfl, h0⟩ | ⟨g, cap, cur, rfl, _, hg, hc, _, _, ht⟩
  · have : l = [] := List.length_eq_zero_iff.1 h0
    subst this
    exact Bs.nil w
  · refine ⟨hb, _, _, rfl, hc, .inr ⟨g, 0, rfl, lt_of_heap hg, fun i x hi => ?_⟩⟩
    have h1 : (bytesV l)[i]? = some (.int .u8 (x : Int)) := by simp [bytesV, hi]
    rw [← ht, List.getElem?_take] at h1
    rw [cell_of hg, Nat.zero_add]
    split at h1
    · simpa using h1
    · cases h1

theorem own_slice {w : World} {base : Nat} {e : TypeId} {size : Nat} {v : Value} {n : Nat} {xs : List Value} (h : w.ownsRow base e size v n xs) : ∃ a c, v = .slice a n c ∧ n ≤ c := by
  rcases h.2 with ⟨rfl, rfl⟩ | ⟨g, cap, _, rfl, _, _, hc, _⟩
  · exact ⟨_, _, rfl, Nat.le_refl _⟩
  · exact ⟨_, _, rfl, hc⟩
theorem own_below {w w' : World} {base : Nat} {e : TypeId} {size : Nat} {v : Value} {n : Nat} {xs : List Value} (h : w.ownsRow base e size v n xs) (b : Below w.heap.size w w') : w'.ownsRow base e size v n xs :=
  h.kept (row := none) ⟨b.os, b.tape, b.output, b.size, fun k hk _ => b.block k hk⟩ (by cases hv : v.ownBlock <;> simp)

/-- A store into one block leaves the others. -/
theorem grown_set (W : World) (b i : Nat) (v : Value) : W.grownBy (W.setCell ⟨b, i, none⟩ v) (some b) :=
  ⟨rfl, rfl, rfl, by show W.heap.size ≤ (W.heap.modify b _).size; rw [Array.size_modify]; exact Nat.le_refl _, fun k _ hk => Below.heap_setCell W ⟨b, i, none⟩ v k (fun e => hk (by rw [e]))⟩
theorem own_other {w : World} {base g n c : Nat} {l : List Nat} (h : w.ownsRow base 5 1 (.slice (some ⟨g, 0, none⟩) n c) n (bytesV l)) {b i : Nat} (hne : g ≠ b) (v : Value) : (w.setCell ⟨b, i, none⟩ v).ownsRow base 5 1 (.slice (some ⟨g, 0, none⟩) n c) n (bytesV l) :=
  h.kept (grown_set w b i v) (.inr (by simp only [Value.ownBlock]; intro e; injection e with e; exact hne e))

/-- A slice that a composite literal lays. -/
theorem bs_lit {w : World} {g : Nat} {cs : Array Value} {t : TypeId} {fr : Nat × Nat} {l : List Nat} (h : w.heap[g]? = some (.cells cs t fr)) (hc : cs.toList = bytesV l) (hb : ∀ b ∈ l, b < 256) : Bs w (.slice (some ⟨g, 0, none⟩) l.length l.length) l := by
  refine ⟨hb, _, _, rfl, Nat.le_refl _, .inr ⟨g, 0, rfl, lt_of_heap h, fun i x hi => ?_⟩⟩
  rw [Nat.zero_add, cell_of h, ← Array.getElem?_toList, hc]
  simp [bytesV, hi]
/-- An empty slice that a composite literal lays: of the call's own. -/
theorem own_empty (w : World) (base : Nat) (h : base ≤ w.heap.size) : (w.alloc (.cells #[] 5)).ownsRow base 5 1 (.slice (some ⟨w.heap.size, 0, none⟩) 0 0) 0 [] :=
  ⟨by simp, .inr ⟨w.heap.size, 0, #[], rfl, h, World.alloc_heap_new w _, Nat.le_refl _, by unfold maxLen; omega, by simp, by simp⟩⟩

/-- A byte stored into memory of the call's own; and one read. -/
theorem own_store {w : World} {base g n c : Nat} {l : List Nat} (h : w.ownsRow base 5 1 (.slice (some ⟨g, 0, none⟩) n c) n (bytesV l)) {q x : Nat} :
    (w.setCell ⟨g, q, none⟩ (.int .u8 (x : Int))).ownsRow base 5 1 (.slice (some ⟨g, 0, none⟩) n c) n (bytesV (l.set q x)) := by
  obtain ⟨h1, h2⟩ := h
  refine ⟨by rw [bytesV_len, List.length_set, ← bytesV_len]; exact h1, ?_⟩
  rcases h2 with ⟨h2, _⟩ | ⟨g', cap, cur, he, hb, hg, hc, hm, hs, ht⟩
  · cases h2
  · injection he with e1 e2 e3
    injection e1 with e1
    injection e1 with e4
    subst e4; subst e3
    refine .inr ⟨g, c, cur.setIfInBounds q (.int .u8 (x : Int)), rfl, hb, set_of hg q _, hc, hm, by simpa using hs, ?_⟩
    rw [Array.toList_setIfInBounds, Nat.mul_one, List.take_set, show List.take n cur.toList = bytesV l by simpa using ht]
    simp [bytesV]

theorem own_cell {w : World} {base n c : Nat} {va : Option Addr} {l : List Nat} (h : w.ownsRow base 5 1 (.slice va n c) n (bytesV l)) {q : Nat} (hq : q < l.length) :
    ∃ g, va = some ⟨g, 0, none⟩ ∧ base ≤ g ∧ w.cell? ⟨g, q, none⟩ = some (.int .u8 (l[q] : Int)) ∧ w.frozen? ⟨g, q, none⟩ = false := by
  obtain ⟨h1, h2⟩ := h
  rw [bytesV_len] at h1
  rcases h2 with ⟨_, h2⟩ | ⟨g, cap, cur, he, hb, hg, hc, hm, hs, ht⟩
  · omega
  · injection he with e1 e2 e3
    refine ⟨g, e1, hb, ?_, free_of hg q⟩
    have h3 : (bytesV l)[q]? = some (.int .u8 (l[q] : Int)) := by simp [bytesV, hq]
    rw [← ht, List.getElem?_take] at h3
    rw [cell_of hg]
    split at h3
    · simpa using h3
    · cases h3

/-- 'append(v, b...)' of a slice of the call's own. -/
theorem append_bytes (w : World) (base : Nat) (ty : TypeId) {v u : Value} {k : Nat} {xs : List Value} {l : List Nat} (hown : w.ownsRow base 5 1 v k xs) (hb : Bs w u l) (h63 : k + l.length ≤ 1000000000000) (hbase : base ≤ w.heap.size) :
    ∃ v' w', (Builtin.append_ #[101, 101] ty #[v, u]).run Tryz.prog w = .ok v' w' ∧ w'.ownsRow base 5 1 v' (k + l.length) (xs ++ bytesV l) ∧ w.grownBy w' v.ownBlock := by
  obtain ⟨i0, hi, hz0, hz1, hz2⟩ := info_parts infoByte
  obtain ⟨hlt, a, c, rfl, hc, h⟩ := hb
  have hmax : k + l.length ≤ maxLen := by unfold maxLen; omega
  cases a with
  | some ad =>
    have hnews : ∀ j x, (bytesV l)[j]? = some x → w.cell? (ad.add j) = some x := by
      rcases h with rfl | ⟨g, off, ha, hg, hx⟩
      · intro j x hj; simp [bytesV] at hj
      · injection ha with ha
        subst ha
        intro j x hj
        simp only [bytesV, List.getElem?_map, Option.map_eq_some_iff] at hj
        obtain ⟨y, hy, rfl⟩ := hj
        have e : (⟨g, off, none⟩ : Addr).add j = ⟨g, off + j, none⟩ := Addr.add_lit _ _ _
        rw [e]
        exact hx j y hy
    obtain ⟨v', w', h1, h2, h3, _⟩ := run_append_own (P := Tryz.prog) w base 101 ty 5 i0 (.int .u8 0) 1 1 Tryz.underlying101 hi hz0 hz1 hz2 rfl (by decide) v k xs hown ad l.length c (bytesV l) (by rw [bytesV_len, Nat.mul_one]) hnews (bytesV_one l) hmax (by omega) hbase
    exact ⟨v', w', h1, h2, h3⟩
  | none =>
    have hl : l = [] := by
      rcases h with h | ⟨_, _, ha, _⟩
      · exact h
      · cases ha
    subst hl
    refine ⟨v, w, ?_, by simpa [bytesV] using hown, ⟨rfl, rfl, rfl, Nat.le_refl _, fun _ _ _ => rfl⟩⟩
    obtain ⟨va, vc, rfl, hvc⟩ := own_slice hown
    have hu := Tryz.underlying101
    cases va <;> simp [Builtin.append_, Builtin.lenOf, run_underlying hu, sizeOf, typeInfo, hi, hvc, storeCells, Builtin.firstCells]

/-- The same at the operation, in a walk. -/
theorem wp_append_bytes {ops : Array Oper} {rest : List Oper} {o : Oper} {a : Act} {w : World} {Q : Exit → Act → World → Prop} (hgd : o.guard = none) (s x : Operand)
    (ho : o.op = .call { callee := .builtin .append, args := #[s, x], argTypes := #[101, 101] }) (base : Nat) {v u : Value} {k : Nat} {xs : List Value} {l : List Nat} (hs : a.eval s = v) (hx : a.eval x = u)
    (hown : w.ownsRow base 5 1 v k xs) (hb : Bs w u l) (h63 : k + l.length ≤ 1000000000000) (hbase : base ≤ w.heap.size)
    (h : ∀ v' w', w'.ownsRow base 5 1 v' (k + l.length) (xs ++ bytesV l) → w.grownBy w' v.ownBlock → wpList Tryz.prog ops Q rest (a.put o.dst v') w') : wpList Tryz.prog ops Q (o :: rest) a w :=
  wpList_plain hgd fun K hK => by
    obtain ⟨v', w', hr, h2, h3⟩ := append_bytes w base o.type hown hb h63 hbase
    subst hs; subst hx
    simp [Oper.wp, Oper.upon, execOp, ho, resolve, invoke, builtin, hr, Result.andThen]
    exact hK _ _ (h v' w' h2 h3)

/-- The same at a step of a region that draws its order. -/
theorem step_append_bytes {ops : Array Oper} {o : Oper} {a : Act} {w : World} {K : Act → World → Prop} {Q : Exit → Act → World → Prop} {E : Prop} (hgd : o.guard = none) (s x : Operand)
    (ho : o.op = .call { callee := .builtin .append, args := #[s, x], argTypes := #[101, 101] }) (base : Nat) {v u : Value} {k : Nat} {xs : List Value} {l : List Nat} (hs : a.eval s = v) (hx : a.eval x = u)
    (hown : w.ownsRow base 5 1 v k xs) (hb : Bs w u l) (h63 : k + l.length ≤ 1000000000000) (hbase : base ≤ w.heap.size)
    (h : ∀ v' w', w'.ownsRow base 5 1 v' (k + l.length) (xs ++ bytesV l) → w.grownBy w' v.ownBlock → K (a.put o.dst v') w') :
    if Region.wanted o (yielded ops a.tmps) = true then Oper.wp Tryz.prog o a w K Q else E := by
  have hw : Region.wanted o (yielded ops a.tmps) = true := by simp [Region.wanted, hgd]
  rw [if_pos hw]
  obtain ⟨v', w', hr, h2, h3⟩ := append_bytes w base o.type hown hb h63 hbase
  subst hs; subst hx
  unfold Oper.wp execOp
  simp only [ho, resolve, invoke, builtin, Sem.run_bind, Sem.run_pure, Result.andThen_ok, List.map_toArray, List.map_cons, List.map_nil, hr]
  exact h v' w' h2 h3
/-- The same, over a world below which nothing has turned. -/
theorem step_append_held {ops : Array Oper} {o : Oper} {a : Act} {w0 w : World} {K : Act → World → Prop} {Q : Exit → Act → World → Prop} {E : Prop} (hgd : o.guard = none) (s x : Operand)
    (ho : o.op = .call { callee := .builtin .append, args := #[s, x], argTypes := #[101, 101] }) (base : Nat) {v u : Value} {k : Nat} {xs : List Value} {l : List Nat} (hs : a.eval s = v) (hx : a.eval x = u)
    (hB : Below base w0 w) (hown : w.ownsRow base 5 1 v k xs) (hb : Bs w u l) (h63 : k + l.length ≤ 1000000000000) (hbase : base ≤ w.heap.size)
    (h : ∀ v' w', w'.ownsRow base 5 1 v' (k + l.length) (xs ++ bytesV l) → w.grownBy w' v.ownBlock → Below base w0 w' → K (a.put o.dst v') w') :
    if Region.wanted o (yielded ops a.tmps) = true then Oper.wp Tryz.prog o a w K Q else E :=
  step_append_bytes hgd s x ho base hs hx hown hb h63 hbase fun v' w' h2 h3 => h v' w' h2 h3 (hB.grown h3 hbase fun j e => (hown.lt j e).1)
/-- What a slice holds stays where another block is written. -/
theorem Bs.grown {w w' : World} {g off n c : Nat} {l : List Nat} {row : Option Nat} (h : Bs w (.slice (some ⟨g, off, none⟩) n c) l) (hg : w.grownBy w' row) (hne : row ≠ some g) : Bs w' (.slice (some ⟨g, off, none⟩) n c) l := by
  obtain ⟨hb, a, c', he, hc, h⟩ := h
  injection he with e1 e2 e3
  subst e1; subst e3
  refine ⟨hb, _, c, by rw [e2], hc, ?_⟩
  rcases h with h | ⟨g', off', ha, hlt, hx⟩
  · exact .inl h
  · injection ha with ha
    injection ha with h1 h2
    subst h1; subst h2
    refine .inr ⟨g, off, rfl, Nat.lt_of_lt_of_le hlt hg.size, fun i x hi => ?_⟩
    rw [World.cell?_of_block (a := ⟨g, off + i, none⟩) (hg.block g hlt (fun e => hne e.symm))]
    exact hx i x hi

/-- '[]byte("..")' of a constant: the bytes are laid as a slice, and marked as made of a text; what they hold stays. -/
theorem conv_text {w : World} {b n c : Nat} {cs : Array Value} {t : TypeId} (h : w.heap[b]? = some (.cells cs t (0, 0))) :
    (convert 101 101 (.slice (some ⟨b, 0, none⟩) n c)).run Tryz.prog w = .ok (.slice (some ⟨b, 0, none⟩) n c) (w.freeze ⟨b, cs.size, none⟩ 1) := by
  have hu := Tryz.underlying101
  have he := Tryz.underlying5
  have hs : w.shape? b = some (t, cs.size) := by simp [World.shape?, h]
  simp [convert, run_underlying hu, run_underlying he, markStringish, hs, Result.andThen]
theorem freeze_of {w : World} {b n : Nat} {cs : Array Value} {t : TypeId} {fr : Nat × Nat} (h : w.heap[b]? = some (.cells cs t fr)) (o : Nat) : ∃ fr', (w.freeze ⟨b, o, none⟩ n).heap[b]? = some (.cells cs t fr') := by
  obtain ⟨hlt, hk⟩ := Array.getElem?_eq_some_iff.1 h
  unfold World.freeze
  split
  · exact ⟨fr, h⟩
  · refine ⟨if fr.1 == fr.2 then (o, o + n) else (min fr.1 o, max fr.2 (o + n)), ?_⟩
    show (w.heap.modify b _)[b]? = _
    rw [Array.getElem?_eq_getElem (by rw [Array.size_modify]; exact hlt), Array.getElem_modify_self, hk]
theorem below_freeze {B : Nat} {a w : World} (h : Below B a w) {p : Addr} (hp : B ≤ p.block) (n : Nat) : Below B a (w.freeze p n) := by
  unfold World.freeze
  split
  · exact h
  · refine ⟨h.os, h.tape, h.output, by simp only [Array.size_modify]; exact h.size, fun k hk => ?_⟩
    show (w.heap.modify p.block _)[k]? = _
    rw [Array.getElem?_modify, if_neg (by omega)]
    exact h.block k hk

/-- An argument of bytes. -/
theorem bytes_open {H : Type} {enc : TypeId × Value → H} {W : World} {fuel : Nat} {a : Option Addr} {len cap : Nat} {x : DataW H × List MemPlace}
    (hf : DataW.trod enc Tryz.prog W 0 (fun _ => true) true fuel 101 [.slice a len cap] = some x) : ∃ l, l.length = len ∧ Bs W (.slice a len cap) l := by
  rcases open_ints Tryz.underlying101 Tryz.underlying5 (by kernel_rfl) hf with ⟨hc, _⟩ | ⟨ad, len', cap', zs, hc, _, hl, _, hz, _, hcell, hwf⟩
  · simp only [List.cons.injEq, and_true, Value.slice.injEq] at hc
    obtain ⟨rfl, rfl, rfl⟩ := hc
    exact ⟨[], rfl, Bs.nil W⟩
  · simp only [List.cons.injEq, and_true, Value.slice.injEq] at hc
    obtain ⟨rfl, rfl, rfl⟩ := hc
    simp only [if_true] at hz
    have hlen : ((zs.take len).map Int.toNat).length = len := by rw [List.length_map, List.length_take]; omega
    refine ⟨(zs.take len).map Int.toNat, hlen, ?_, some ad, cap, by rw [hlen], by rw [hlen]; exact hl, ?_⟩
    · intro b hb
      obtain ⟨n, hn, rfl⟩ := List.mem_map.1 hb
      have := wf8 (hwf n (List.mem_of_mem_take hn))
      omega
    · by_cases h0 : len = 0
      · left
        subst h0
        simp
      · obtain ⟨b, off, spot⟩ := ad
        have hspot : spot = none := by simpa [Addr.add] using World.cell?_spot (hcell 0 (by omega))
        subst hspot
        refine .inr ⟨b, off, rfl, World.block_lt_of_cell? _ _ (by have := hcell 0 (by omega); rwa [Addr.add_lit] at this), fun i x hi => ?_⟩
        rw [List.getElem?_map, Option.map_eq_some_iff] at hi
        obtain ⟨n, hn, rfl⟩ := hi
        rw [List.getElem?_take] at hn
        split at hn
        · rename_i hlt
          have hc := hcell i (by omega)
          rw [Addr.add_lit] at hc
          have hm := List.mem_of_getElem? hn
          have hw := wf8 (hwf n hm)
          rw [hc]
          have : zs.getD i 0 = n := by rw [List.getD_eq_getElem?_getD, hn]; rfl
          rw [this, Int.toNat_of_nonneg hw.1]
        · cases hn
end Go.Proofs.YtehpjidajmoggaaGreatDoor.Byt
