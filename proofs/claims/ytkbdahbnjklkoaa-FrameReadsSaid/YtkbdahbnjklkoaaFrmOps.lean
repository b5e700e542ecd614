/- Slices of the laws' calls (a kind and a number each): what one holds; how an argument of that type is opened. Nothing is claimed here. -/
import Derived.Test.YtkbdahbnjklkoaaBytes
namespace Go.Proofs.Ytkbdahbnjklkoaa.Frm
open Go.RowKit Kit Byt Go.ChangeShapes Go.WideShapes

def Opl (w : World) (v : Value) (l : List (Nat × Int)) : Prop :=
  (∀ x ∈ l, x.1 < 256 ∧ -9223372036854775808 ≤ x.2 ∧ x.2 ≤ 9223372036854775807) ∧ ∃ a c, v = .slice a l.length c ∧
    (l = [] ∨ ∃ g off, a = some ⟨g, off, none⟩ ∧ g < w.heap.size ∧ ∀ (i : Nat) (x : Nat × Int), l[i]? = some x → w.cell? ⟨g, off + i * 2, none⟩ = some (.int .u8 x.1) ∧ w.cell? ⟨g, off + i * 2 + 1, none⟩ = some (.int .i64 x.2))
theorem Opl.below {w w' : World} {v : Value} {l : List (Nat × Int)} (h : Opl w v l) (b : Below w.heap.size w w') : Opl w' v l := by
  obtain ⟨hl, a, c, rfl, h⟩ := h
  refine ⟨hl, a, c, rfl, ?_⟩
  rcases h with h | ⟨g, off, ha, hg, hc⟩
  · exact .inl h
  · refine .inr ⟨g, off, ha, Nat.lt_of_lt_of_le hg b.size, fun i x hx => ?_⟩
    obtain ⟨h1, h2⟩ := hc i x hx
    exact ⟨(b.cell (p := ⟨g, off + i * 2, none⟩) hg).trans h1, (b.cell (p := ⟨g, off + i * 2 + 1, none⟩) hg).trans h2⟩
theorem Opl.at {w : World} {a : Option Addr} {n c k : Nat} {l : List (Nat × Int)} (h : Opl w (.slice a n c) l) (hk : k < l.length) : ∃ g off K N, a = some ⟨g, off, none⟩ ∧ g < w.heap.size ∧ l[k] = (K, N) ∧ K < 256 ∧ -9223372036854775808 ≤ N ∧ N ≤ 9223372036854775807 ∧
    w.cell? ⟨g, off + k * 2, none⟩ = some (.int .u8 (K : Int)) ∧ w.cell? ⟨g, off + k * 2 + 1, none⟩ = some (.int .i64 N) := by
  obtain ⟨hl, a', c', he, h⟩ := h
  injection he with e1 _ _
  subst e1
  obtain ⟨g, off, rfl, hg, hc⟩ := h.resolve_left (fun e => by rw [e] at hk; simp at hk)
  obtain ⟨h1, h2⟩ := hc k l[k] (List.getElem?_eq_getElem hk)
  obtain ⟨b1, b2, b3⟩ := hl l[k] (List.getElem_mem hk)
  exact ⟨g, off, l[k].1, l[k].2, rfl, hg, rfl, b1, b2, b3, h1, h2⟩

theorem ops_open {H : Type} {enc : TypeId × Value → H} {W : World} {fuel : Nat} {a : Option Addr} {len cap : Nat} {x : DataW H × List MemPlace}
    (hf : DataW.trod enc Try.prog W 0 (fun _ => true) true fuel 23 [.slice a len cap] = some x) : ∃ l, l.length = len ∧ Opl W (.slice a len cap) l := by
  have hc2 : Try.prog.cellsOf 30 = 2 := by kernel_rfl
  rcases DataW.trod_slice Try.underlying23 hf with ⟨hc, _⟩ | ⟨ad, len', cap', elems, rest, n, _, hc, _, _, _, _, hlen, hel, _, _⟩
  · injection hc with hc _
    injection hc with e1 e2 e3
    subst e1; subst e2; subst e3
    exact ⟨[], rfl, by simp, none, 0, rfl, .inl rfl⟩
  · injection hc with hc _
    injection hc with e1 e2 e3
    subst e1; subst e2; subst e3
    have hex : ∀ i, i < len → ∃ p : Nat × Int, W.cell? ((ad.add (i * 2)).add 0) = some (.int .u8 p.1) ∧ W.cell? ((ad.add (i * 2)).add 1) = some (.int .i64 p.2) ∧ p.1 < 256 ∧ -9223372036854775808 ≤ p.2 ∧ p.2 ≤ 9223372036854775807 := by
      intro i hi
      have hE := hel i hi
      rw [hc2] at hE
      rw [List.getElem?_eq_getElem (by omega), Option.bind_eq_some_iff] at hE
      obtain ⟨cs, hcs, ht⟩ := hE
      obtain ⟨_, hl, hcell⟩ := World.cells?_some hcs
      obtain ⟨y0, y1, m, _, _, t0, t1⟩ := trod_struct2 Try.underlying30 ht
      match cs, hl with
      | [c0, c1], _ =>
        have e1 : Try.prog.cellsOf 5 = 1 := by kernel_rfl
        have e2 : Try.prog.cellsOf 3 = 1 := by kernel_rfl
        simp only [e1, e2, List.drop_zero, List.drop_succ_cons, List.take_succ_cons, List.take_zero] at t0 t1
        obtain ⟨k, hk, _, hw⟩ := DataW.trod_int Try.underlying5 t0
        obtain ⟨z, hz, _, hv⟩ := DataW.trod_int Try.underlying3 t1
        injection hk with hk _
        injection hz with hz _
        subst hk; subst hz
        have w8 := wf8 hw
        have w64 := wf64 hv
        refine ⟨(k.toNat, z), ?_, ?_, by show k.toNat < 256; omega, w64.1, w64.2⟩
        · have := hcell 0 (by omega)
          rw [this]
          show some (Value.int .u8 k) = some (Value.int .u8 (k.toNat : Int))
          rw [Int.toNat_of_nonneg w8.1]
        · exact hcell 1 (by omega)
    obtain ⟨l, hl, hx⟩ := choose_list hex
    refine ⟨l, hl, fun p hp => ?_, some ad, cap, by rw [hl], ?_⟩
    · obtain ⟨i, hi⟩ := List.getElem?_of_mem hp
      exact (hx i p hi).2.2
    · by_cases h0 : l = []
      · exact .inl h0
      · obtain ⟨b, off, spot⟩ := ad
        have h00 : 0 < l.length := by
          rcases l with _ | ⟨x, l⟩
          · exact absurd rfl h0
          · simp
        have hfst := (hx 0 l[0] (List.getElem?_eq_getElem h00)).1
        have hspot : spot = none := by simpa [Addr.add] using World.cell?_spot hfst
        subst hspot
        rw [Addr.add_lit, Addr.add_lit] at hfst
        refine .inr ⟨b, off, rfl, World.block_lt_of_cell? _ _ hfst, fun i x hi => ?_⟩
        obtain ⟨h1, h2, _⟩ := hx i x hi
        rw [Addr.add_lit, Addr.add_lit] at h1 h2
        exact ⟨h1, h2⟩
end Go.Proofs.Ytkbdahbnjklkoaa.Frm
