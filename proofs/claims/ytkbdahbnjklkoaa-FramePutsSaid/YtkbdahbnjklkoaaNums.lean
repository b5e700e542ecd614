/- Slices of uint64: what one holds, over calls and cuts; one appended to memory of the call's own; how an argument of that type is opened. Nothing is claimed here. -/
import Derived.Test.YtkbdahbnjklkoaaBytes
import Derived.WalkSpells
import Derived.WalkLawsBesides
import Derived.Deep.AppendSrc
import Derived.RangeFuncBox
namespace Go.Proofs.Ytkbdahbnjklkoaa.U64
open Go.RowKit Kit Go.ChangeShapes Go.WideShapes

/-- A number of 64 bits. -/
def Fit (n : Nat) : Prop := n < 18446744073709551616

def numsV (l : List Nat) : List Value := l.map fun x : Nat => .int .u64 (x : Int)
theorem numsV_len (l : List Nat) : (numsV l).length = l.length := by simp [numsV]
theorem numsV_app (a b : List Nat) : numsV (a ++ b) = numsV a ++ numsV b := by simp [numsV]
theorem numsV_one (l : List Nat) : ∀ u ∈ numsV l, u.oneCell' = true := by
  intro u hu
  obtain ⟨x, _, rfl⟩ := List.mem_map.1 hu
  rfl
theorem infoNum : (Try.prog.info? 31).map (fun i => (i.zero, i.size, i.bytes)) = some (some (.int .u64 0), 1, 8) := by kernel_rfl

/-- The slice v holds the bytes l. -/
def Us (w : World) (v : Value) (l : List Nat) : Prop :=
  (∀ b ∈ l, Fit b) ∧ ∃ a c, v = .slice a l.length c ∧ l.length ≤ c ∧
    (l = [] ∨ ∃ g off, a = some ⟨g, off, none⟩ ∧ g < w.heap.size ∧ ∀ (i x : Nat), l[i]? = some x → w.cell? ⟨g, off + i, none⟩ = some (.int .u64 (x : Int)))

theorem Us.below {w w' : World} {v : Value} {l : List Nat} (h : Us w v l) (b : Below w.heap.size w w') : Us w' v l := by
  obtain ⟨hb, a, c, rfl, hc, h⟩ := h
  refine ⟨hb, a, c, rfl, hc, ?_⟩
  rcases h with h | ⟨g, off, ha, hg, hx⟩
  · exact .inl h
  · exact .inr ⟨g, off, ha, Nat.lt_of_lt_of_le hg b.size, fun i x hi => (b.cell (p := ⟨g, off + i, none⟩) hg).trans (hx i x hi)⟩

theorem Us.nil (w : World) : Us w (.slice none 0 0) [] := ⟨by simp, none, 0, rfl, Nat.le_refl _, .inl rfl⟩

/-- The first m of them: 'b[:m]'. -/
theorem Us.take {w : World} {a : Option Addr} {n c : Nat} {l : List Nat} (h : Us w (.slice a n c) l) {m : Nat} (hm : m ≤ l.length) : Us w (.slice a m c) (l.take m) := by
  obtain ⟨hb, a', c', he, hc, h⟩ := h
  injection he with e1 e2 e3
  subst e1; subst e3
  refine ⟨fun b hx => hb b (List.mem_of_mem_take hx), a, c, by rw [List.length_take, Nat.min_eq_left hm], by rw [List.length_take]; omega, ?_⟩
  rcases h with h | ⟨g, off, ha, hg, hx⟩
  · exact .inl (by rw [h]; simp)
  · refine .inr ⟨g, off, ha, hg, fun i x hi => hx i x ?_⟩
    rw [List.getElem?_take] at hi
    split at hi
    · exact hi
    · cases hi

/-- Those behind the first m: 'b[m:]' (of a slice that is not nil). -/
theorem Us.drop {w : World} {g off n c : Nat} {l : List Nat} (h : Us w (.slice (some ⟨g, off, none⟩) n c) l) {m : Nat} (hm : m ≤ l.length) : Us w (.slice (some ⟨g, off + m, none⟩) (n - m) (c - m)) (l.drop m) := by
  obtain ⟨hb, a', c', he, hc, h⟩ := h
  injection he with e1 e2 e3
  subst e1; subst e2; subst e3
  refine ⟨fun b hx => hb b (List.mem_of_mem_drop hx), _, _, by rw [List.length_drop], by rw [List.length_drop]; omega, ?_⟩
  rcases h with h | ⟨g', off', ha, hg, hx⟩
  · exact .inl (by rw [h]; simp)
  · injection ha with ha
    injection ha with h1 h2
    subst h1; subst h2
    refine .inr ⟨g, off + m, rfl, hg, fun i x hi => ?_⟩
    rw [List.getElem?_drop] at hi
    have := hx (m + i) x hi
    rwa [← Nat.add_assoc] at this

theorem us_of_own {w : World} {base : Nat} {v : Value} {l : List Nat} (hb : ∀ b ∈ l, Fit b) (h : w.ownsRow base 31 1 v l.length (numsV l)) : Us w v l := by
  rcases h.2 with ⟨rfl, h0⟩ | ⟨g, cap, cur, rfl, _, hg, hc, _, _, ht⟩
  · have : l = [] := List.length_eq_zero_iff.1 h0
    subst this
    exact Us.nil w
  · refine ⟨hb, _, _, rfl, hc, .inr ⟨g, 0, rfl, lt_of_heap hg, fun i x hi => ?_⟩⟩
    have h1 : (numsV l)[i]? = some (.int .u64 (x : Int)) := by simp [numsV, hi]
    rw [← ht, List.getElem?_take] at h1
    rw [cell_of hg, Nat.zero_add]
    split at h1
    · simpa using h1
    · cases h1

theorem own_slice {w : World} {base : Nat} {e : TypeId} {size : Nat} {v : Value} {n : Nat} {xs : List Value} (h : w.ownsRow base e size v n xs) : ∃ a c, v = .slice a n c ∧ n ≤ c := by
  rcases h.2 with ⟨rfl, rfl⟩ | ⟨g, cap, _, rfl, _, _, hc, _⟩
  · exact ⟨_, _, rfl, Nat.le_refl _⟩
  · exact ⟨_, _, rfl, hc⟩
theorem own_below {w w' : World} {base : Nat} {e : TypeId} {size : Nat} {v : Value} {n : Nat} {xs : List Value} (h : w.ownsRow base e size v n xs) (b : Below w.heap.size w w') : w'.ownsRow base e size v n xs :=
  h.kept (row := none) ⟨b.os, b.tape, b.output, b.size, fun k hk _ => b.block k hk⟩ (by cases hv : v.ownBlock <;> simp)

/-- A store into one block leaves the others. -/
theorem grown_set (W : World) (b i : Nat) (v : Value) : W.grownBy (W.setCell ⟨b, i, none⟩ v) (some b) :=
  ⟨rfl, rfl, rfl, by show W.heap.size ≤ (W.heap.modify b _).size; rw [Array.size_modify]; exact Nat.le_refl _, fun k _ hk => Below.heap_setCell W ⟨b, i, none⟩ v k (fun e => hk (by rw [e]))⟩
theorem own_other {w : World} {base g n c : Nat} {l : List Nat} (h : w.ownsRow base 31 1 (.slice (some ⟨g, 0, none⟩) n c) n (numsV l)) {b i : Nat} (hne : g ≠ b) (v : Value) : (w.setCell ⟨b, i, none⟩ v).ownsRow base 31 1 (.slice (some ⟨g, 0, none⟩) n c) n (numsV l) :=
  h.kept (grown_set w b i v) (.inr (by simp only [Value.ownBlock]; intro e; injection e with e; exact hne e))

/-- 'append(v, b...)' of a slice of the call's own. -/
theorem append_nums (w : World) (base : Nat) (ty : TypeId) {v u : Value} {k : Nat} {xs : List Value} {l : List Nat} (hown : w.ownsRow base 31 1 v k xs) (hb : Us w u l) (h63 : k + l.length ≤ 1000000000000) (hbase : base ≤ w.heap.size) :
    ∃ v' w', (Builtin.append_ #[74, 74] ty #[v, u]).run Try.prog w = .ok v' w' ∧ w'.ownsRow base 31 1 v' (k + l.length) (xs ++ numsV l) ∧ w.grownBy w' v.ownBlock := by
  obtain ⟨i0, hi, hz0, hz1, hz2⟩ := info_parts infoNum
  obtain ⟨hlt, a, c, rfl, hc, h⟩ := hb
  have hmax : k + l.length ≤ maxLen := by unfold maxLen; omega
  cases a with
  | some ad =>
    have hnews : ∀ j x, (numsV l)[j]? = some x → w.cell? (ad.add j) = some x := by
      rcases h with rfl | ⟨g, off, ha, hg, hx⟩
      · intro j x hj; simp [numsV] at hj
      · injection ha with ha
        subst ha
        intro j x hj
        simp only [numsV, List.getElem?_map, Option.map_eq_some_iff] at hj
        obtain ⟨y, hy, rfl⟩ := hj
        have e : (⟨g, off, none⟩ : Addr).add j = ⟨g, off + j, none⟩ := Addr.add_lit _ _ _
        rw [e]
        exact hx j y hy
    obtain ⟨v', w', h1, h2, h3, _⟩ := run_append_own (P := Try.prog) w base 74 ty 31 i0 (.int .u64 0) 1 8 Try.underlying74 hi hz0 hz1 hz2 rfl (by decide) v k xs hown ad l.length c (numsV l) (by rw [numsV_len, Nat.mul_one]) hnews (numsV_one l) hmax (by omega) hbase
    exact ⟨v', w', h1, h2, h3⟩
  | none =>
    have hl : l = [] := by
      rcases h with h | ⟨_, _, ha, _⟩
      · exact h
      · cases ha
    subst hl
    refine ⟨v, w, ?_, by simpa [numsV] using hown, ⟨rfl, rfl, rfl, Nat.le_refl _, fun _ _ _ => rfl⟩⟩
    obtain ⟨va, vc, rfl, hvc⟩ := own_slice hown
    have hu := Try.underlying74
    cases va <;> simp [Builtin.append_, Builtin.lenOf, run_underlying hu, sizeOf, typeInfo, hi, hvc, storeCells, Builtin.firstCells]

/-- The same at the operation, in a walk. -/
theorem wp_append_nums {ops : Array Oper} {rest : List Oper} {o : Oper} {a : Act} {w : World} {Q : Exit → Act → World → Prop} (hgd : o.guard = none) (s x : Operand)
    (ho : o.op = .call { callee := .builtin .append, args := #[s, x], argTypes := #[74, 74] }) (base : Nat) {v u : Value} {k : Nat} {xs : List Value} {l : List Nat} (hs : a.eval s = v) (hx : a.eval x = u)
    (hown : w.ownsRow base 31 1 v k xs) (hb : Us w u l) (h63 : k + l.length ≤ 1000000000000) (hbase : base ≤ w.heap.size)
    (h : ∀ v' w', w'.ownsRow base 31 1 v' (k + l.length) (xs ++ numsV l) → w.grownBy w' v.ownBlock → wpList Try.prog ops Q rest (a.put o.dst v') w') : wpList Try.prog ops Q (o :: rest) a w :=
  wpList_plain hgd fun K hK => by
    obtain ⟨v', w', hr, h2, h3⟩ := append_nums w base o.type hown hb h63 hbase
    subst hs; subst hx
    simp [Oper.wp, Oper.upon, execOp, ho, resolve, invoke, builtin, hr, Result.andThen]
    exact hK _ _ (h v' w' h2 h3)

/-- An argument of bytes. -/
theorem nums_open {H : Type} {enc : TypeId × Value → H} {W : World} {fuel : Nat} {a : Option Addr} {len cap : Nat} {x : DataW H × List MemPlace}
    (hf : DataW.trod enc Try.prog W 0 (fun _ => true) true fuel 74 [.slice a len cap] = some x) : ∃ l, l.length = len ∧ Us W (.slice a len cap) l := by
  rcases open_ints Try.underlying74 Try.underlying31 (by kernel_rfl) hf with ⟨hc, _⟩ | ⟨ad, len', cap', zs, hc, _, hl, _, hz, _, hcell, hwf⟩
  · simp only [List.cons.injEq, and_true, Value.slice.injEq] at hc
    obtain ⟨rfl, rfl, rfl⟩ := hc
    exact ⟨[], rfl, Us.nil W⟩
  · simp only [List.cons.injEq, and_true, Value.slice.injEq] at hc
    obtain ⟨rfl, rfl, rfl⟩ := hc
    simp only [if_true] at hz
    have hlen : ((zs.take len).map Int.toNat).length = len := by rw [List.length_map, List.length_take]; omega
    refine ⟨(zs.take len).map Int.toNat, hlen, ?_, some ad, cap, by rw [hlen], by rw [hlen]; exact hl, ?_⟩
    · intro b hb
      obtain ⟨n, hn, rfl⟩ := List.mem_map.1 hb
      have := wfu64 (hwf n (List.mem_of_mem_take hn))
      unfold Fit
      omega
    · by_cases h0 : len = 0
      · left
        subst h0
        simp
      · obtain ⟨b, off, spot⟩ := ad
        have hspot : spot = none := by simpa [Addr.add] using World.cell?_spot (hcell 0 (by omega))
        subst hspot
        refine .inr ⟨b, off, rfl, World.block_lt_of_cell? _ _ (by have := hcell 0 (by omega); rwa [Addr.add_lit] at this), fun i x hi => ?_⟩
        rw [List.getElem?_map, Option.map_eq_some_iff] at hi
        obtain ⟨n, hn, rfl⟩ := hi
        rw [List.getElem?_take] at hn
        split at hn
        · rename_i hlt
          have hc := hcell i (by omega)
          rw [Addr.add_lit] at hc
          have hm := List.mem_of_getElem? hn
          have hw := wfu64 (hwf n hm)
          rw [hc]
          have : zs.getD i 0 = n := by rw [List.getD_eq_getElem?_getD, hn]; rfl
          rw [this, Int.toNat_of_nonneg hw.1]
        · cases hn
end Go.Proofs.Ytkbdahbnjklkoaa.U64
