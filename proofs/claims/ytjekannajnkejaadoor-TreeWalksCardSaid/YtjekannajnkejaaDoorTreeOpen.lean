/- How an argument of type api.Value is opened. Nothing is claimed here. -/
import Derived.Test.YtjekannajnkejaaDoorTreeRoom
import Derived.SizedLaws
import Derived.Lib.SmallJoins
import Derived.Deep.Strs
namespace Go.Proofs.YtjekannajnkejaaDoor.Tre
open Go.RowKit Kit Txt Go.ChangeShapes Go.WideShapes Go.Joins
open Num (Dec zero)

theorem pick_list {α : Type} {n : Nat} {R : Nat → α → Prop} (h : ∀ i, i < n → ∃ x, R i x) : ∃ l : List α, l.length = n ∧ ∀ i x, l[i]? = some x → R i x := by
  induction n with
  | zero => exact ⟨[], rfl, fun i x hx => by simp at hx⟩
  | succ n ih =>
    obtain ⟨l, hl, hR⟩ := ih fun i hi => h i (by omega)
    obtain ⟨x, hx⟩ := h n (by omega)
    refine ⟨l ++ [x], by simp [hl], fun i y hy => ?_⟩
    by_cases hi : i < l.length
    · rw [List.getElem?_append_left hi] at hy
      exact hR i y hy
    · rw [List.getElem?_append_right (by omega)] at hy
      have : i = l.length := by
        by_cases e : i - l.length = 0
        · omega
        · obtain ⟨k, hk⟩ : ∃ k, i - l.length = k + 1 := ⟨i - l.length - 1, by omega⟩
          rw [hk] at hy
          simp at hy
      subst this
      simp at hy
      subst hy
      rw [hl]
      exact hx
theorem holds_of {w : World} {g : Nat} : ∀ {vs : List Val} {off : Nat}, (∀ (i : Nat) (v : Val), vs[i]? = some v → ∃ cs, At8 w g (off + i * 8) cs ∧ Hold w cs v) → Holds w g off vs
  | [], _, _ => by rw [Holds]; trivial
  | x :: r, off, h => by
    rw [Holds]
    refine ⟨by simpa using h 0 x rfl, holds_of fun i v hv => ?_⟩
    have := h (i + 1) v (by simpa using hv)
    rwa [show off + (i + 1) * 8 = off + 8 + i * 8 by omega] at this

section
variable {H : Type} {enc : TypeId × Value → H} {W : World}
theorem weightsAll_mem {P : Program} {e : TypeId} : ∀ {l : List (DataW H)} {d : DataW H}, d ∈ l → ∀ n ∈ d.weights P e, n ∈ DataW.weightsAll P e l
  | a :: r, d, hd, n, hn => by
    rw [DataW.weightsAll]
    rcases List.mem_cons.1 hd with rfl | h
    · exact List.mem_append_left _ hn
    · exact List.mem_append_right _ (weightsAll_mem h n hn)
theorem keys_open {fuel : Nat} {c : Value} {x : DataW H × List MemPlace} (hf : DataW.trod enc Tryd.prog W 0 (fun _ => true) true fuel 24 [c] = some x) (hwt : ∀ n ∈ x.1.weights Tryd.prog 24, n ≤ reachBytes) : ∃ ls, Ks W c ls ∧ ls.length ≤ 10000000000000 := by
  have hc1 : Tryd.prog.cellsOf 9 = 1 := by kernel_rfl
  rcases DataW.trod_slice Tryd.underlying24 hf with ⟨hc, _⟩ | ⟨ad, len, cap, elems, rest, n, _, hc, hxe, _, hl, hm, hlen, hel, _, _⟩
  · injection hc with hc _
    exact ⟨[], ⟨none, 0, hc, Nat.le_refl _, by omega, .inl rfl⟩, by simp⟩
  · injection hc with hc _
    have hb16 : Tryd.prog.bytesOf 9 = 16 := by kernel_rfl
    have hlen16 : len ≤ 10000000000000 := by
      have := hwt ((elems.length + rest.length) * 16) (by rw [hxe]; simp [DataW.weights, Tryd.underlying24, hb16])
      unfold reachBytes at this
      omega
    obtain ⟨ps, hps, hp⟩ := pick_list (n := len) (R := fun i (l : List UInt8) => W.cell? (ad.add i) = some (.string (txt l))) fun i hi => by
      have hE := hel i hi
      rw [hc1, Nat.mul_one] at hE
      rw [List.getElem?_eq_getElem (by omega), Option.bind_eq_some_iff] at hE
      obtain ⟨cs, hcs, ht⟩ := hE
      obtain ⟨_, hcl, hcell⟩ := World.cells?_some hcs
      match cs, hcl with
      | [c0], _ =>
        obtain ⟨s, e, _, _⟩ := DataW.trod_string Tryd.underlying9 ht
        injection e with e _
        subst e
        refine ⟨s.data.toList, ?_⟩
        rw [← txt_data]
        simpa [Addr.add] using hcell 0 (by simp)
    have hmax : cap ≤ 9223372036854775807 := by
      have := hm
      unfold maxLen at this
      omega
    refine ⟨ps, ⟨some ad, cap, by rw [hps]; exact hc, by rw [hps]; exact hl, hmax, ?_⟩, by rw [hps]; exact hlen16⟩
    by_cases h0 : len = 0
    · exact .inl (List.length_eq_zero_iff.1 (by omega))
    · obtain ⟨b, off, spot⟩ := ad
      have h00 : 0 < ps.length := by omega
      have hfst := hp 0 ps[0] (List.getElem?_eq_getElem h00)
      have hspot : spot = none := by simpa [Addr.add] using World.cell?_spot hfst
      subst hspot
      rw [Addr.add_lit] at hfst
      refine .inr ⟨b, off, rfl, World.block_lt_of_cell? _ _ hfst, fun i l hi => ?_⟩
      have := hp i l hi
      rwa [Addr.add_lit] at this
set_option maxRecDepth 100000 in
theorem value_open : ∀ (fuel : Nat) (cs : List Value) (x : DataW H × List MemPlace), DataW.trod enc Tryd.prog W 0 (fun _ => true) true fuel 27 cs = some x → (∀ n ∈ x.1.weights Tryd.prog 27, n ≤ reachBytes) → ∃ v, Hold W cs v ∧ Tame v := by
  intro fuel
  induction fuel using Nat.strongRecOn with
  | ind fuel ih =>
    intro cs x h hwt
    have z1 : Tryd.prog.cellsOf 3 = 1 := by kernel_rfl
    have z2 : Tryd.prog.cellsOf 4 = 1 := by kernel_rfl
    have z3 : Tryd.prog.cellsOf 23 = 3 := by kernel_rfl
    have z4 : Tryd.prog.cellsOf 9 = 1 := by kernel_rfl
    have z5 : Tryd.prog.cellsOf 24 = 1 := by kernel_rfl
    have z6 : Tryd.prog.cellsOf 25 = 1 := by kernel_rfl
    have z8 : Tryd.prog.cellsOf 27 = 8 := by kernel_rfl
    obtain ⟨xs, n, hn, hxe, hl, hlen, hf⟩ := DataW.trod_struct Tryd.underlying27 h
    rw [z8] at hl
    match cs, hl, xs, hlen with
    | [c0, c1, c2, c3, c4, c5, c6, c7], _, [y0, y1, y2, y3, y4, y5], _ =>
      have t0 : DataW.trod enc Tryd.prog W 0 (fun _ => true) true n 3 (([c0, c1, c2, c3, c4, c5, c6, c7].drop 0).take (Tryd.prog.cellsOf 3)) = some y0 := hf 0 _ rfl
      have t1 : DataW.trod enc Tryd.prog W 0 (fun _ => true) true n 4 (([c0, c1, c2, c3, c4, c5, c6, c7].drop 1).take (Tryd.prog.cellsOf 4)) = some y1 := hf 1 _ rfl
      have t2 : DataW.trod enc Tryd.prog W 0 (fun _ => true) true n 23 (([c0, c1, c2, c3, c4, c5, c6, c7].drop 2).take (Tryd.prog.cellsOf 23)) = some y2 := hf 2 _ rfl
      have t3 : DataW.trod enc Tryd.prog W 0 (fun _ => true) true n 9 (([c0, c1, c2, c3, c4, c5, c6, c7].drop 5).take (Tryd.prog.cellsOf 9)) = some y3 := hf 3 _ rfl
      have t4 : DataW.trod enc Tryd.prog W 0 (fun _ => true) true n 24 (([c0, c1, c2, c3, c4, c5, c6, c7].drop 6).take (Tryd.prog.cellsOf 24)) = some y4 := hf 4 _ rfl
      have t5 : DataW.trod enc Tryd.prog W 0 (fun _ => true) true n 25 (([c0, c1, c2, c3, c4, c5, c6, c7].drop 7).take (Tryd.prog.cellsOf 25)) = some y5 := hf 5 _ rfl
      simp only [z1, z2, z3, z4, z5, z6, List.drop_zero, List.drop_succ_cons, List.take_succ_cons, List.take_zero] at t0 t1 t2 t3 t4 t5
      obtain ⟨k, e0, _, _⟩ := DataW.trod_int Tryd.underlying3 t0
      obtain ⟨b, e1, _⟩ := DataW.trod_bool Tryd.underlying4 t1
      obtain ⟨u0, u1, u2, m, _, _, n0, n1, n2⟩ := Go.Deep.trod_struct3 Tryd.underlying23 t2
      simp only [z1, z2, z4, List.drop_zero, List.drop_succ_cons, List.take_succ_cons, List.take_zero] at n0 n1 n2
      obtain ⟨ng, f0, _⟩ := DataW.trod_bool Tryd.underlying4 n0
      obtain ⟨dg, f1, _, _⟩ := DataW.trod_string Tryd.underlying9 n1
      obtain ⟨ex, f2, _, _⟩ := DataW.trod_int Tryd.underlying3 n2
      obtain ⟨s, e3, _, _⟩ := DataW.trod_string Tryd.underlying9 t3
      have W4 : ∀ m ∈ y4.1.weights Tryd.prog 24, m ≤ reachBytes := fun m hm => hwt m (by rw [hxe]; simp only [DataW.weights, Tryd.underlying27]; exact DataW.weights_mem_each (j := 4) rfl rfl m hm)
      have W5 : ∀ m ∈ y5.1.weights Tryd.prog 25, m ≤ reachBytes := fun m hm => hwt m (by rw [hxe]; simp only [DataW.weights, Tryd.underlying27]; exact DataW.weights_mem_each (j := 5) rfl rfl m hm)
      obtain ⟨ks, hks, hkl⟩ := keys_open t4 W4
      simp only [List.cons.injEq, and_true] at e0 e1 f0 f1 f2 e3
      subst e0; subst e1; subst f0; subst f1; subst f2; subst e3
      have hcs : ∀ (a : Option Addr) (len cap : Nat), [Value.int .i64 k, .bool b, .bool ng, .string dg, .int .i64 ex, .string s, c6, .slice a len cap] = cellsV k b ⟨ng, dg.data.toList, ex⟩ s.data.toList c6 (.slice a len cap) := fun a len cap => by
        unfold cellsV
        dsimp only
        rw [← txt_data, ← txt_data]
      rcases DataW.trod_slice Tryd.underlying25 t5 with ⟨hc, _⟩ | ⟨ad, len, cap, elems, rest, n', hn', hc, hx5, _, hll, hm, hlen', hel, _, _⟩
      · injection hc with hc _
        subst hc
        refine ⟨⟨k, b, ⟨ng, dg.data.toList, ex⟩, s.data.toList, ks, []⟩, ?_, by rw [Tame, Tames]; exact ⟨hkl, trivial⟩⟩
        rw [Hold]
        exact ⟨c6, none, 0, hcs _ _ _, hks, Nat.le_refl _, by omega, .inl rfl⟩
      · injection hc with hc _
        subst hc
        have hmax : cap ≤ 9223372036854775807 := by
          have := hm
          unfold maxLen at this
          omega
        obtain ⟨vs, hvs, hp⟩ := pick_list (n := len) (R := fun i (v : Val) => ∃ cs', W.cells? 0 (ad.add (i * 8)) 8 = some cs' ∧ Hold W cs' v ∧ Tame v) fun i hi => by
          have hE := hel i hi
          rw [z8] at hE
          rw [List.getElem?_eq_getElem (by omega), Option.bind_eq_some_iff] at hE
          obtain ⟨cs', hcs', ht⟩ := hE
          obtain ⟨v, hv, htm⟩ := ih n' (by omega) cs' _ ht fun m hm => W5 m (by
            rw [hx5]
            simp only [DataW.weights, Tryd.underlying25]
            exact List.mem_cons_of_mem _ (List.mem_append_left _ (weightsAll_mem (List.mem_map_of_mem (List.getElem_mem _)) m hm)))
          exact ⟨v, cs', hcs', hv, htm⟩
        refine ⟨⟨k, b, ⟨ng, dg.data.toList, ex⟩, s.data.toList, ks, vs⟩, ?_, by
          rw [Tame, tames_iff]
          refine ⟨hkl, fun v hv => ?_⟩
          obtain ⟨i, hi, e⟩ := List.mem_iff_getElem.1 hv
          obtain ⟨_, _, _, h3⟩ := hp i v (by rw [List.getElem?_eq_getElem hi, e])
          exact h3⟩
        rw [Hold]
        refine ⟨c6, some ad, cap, by rw [hvs]; exact hcs _ _ _, hks, by rw [hvs]; exact hll, hmax, ?_⟩
        by_cases h0 : len = 0
        · exact .inl (List.length_eq_zero_iff.1 (by omega))
        · obtain ⟨g, off, spot⟩ := ad
          obtain ⟨cs0, hcs0, -, -⟩ := hp 0 vs[0] (List.getElem?_eq_getElem (by omega))
          obtain ⟨_, hcl0, hcell0⟩ := World.cells?_some hcs0
          have hfst : ∃ q, W.cell? ((({ block := g, off := off, spot := spot } : Addr).add (0 * 8)).add 0) = some q := ⟨cs0[0]'(by omega), by rw [hcell0 0 (by omega)]; exact List.getElem?_eq_getElem (by omega)⟩
          obtain ⟨q, hq⟩ := hfst
          have hspot : spot = none := by simpa [Addr.add] using World.cell?_spot hq
          subst hspot
          rw [Addr.add_lit, Addr.add_lit] at hq
          refine .inr ⟨g, off, rfl, World.block_lt_of_cell? _ _ hq, holds_of fun i v hv => ?_⟩
          obtain ⟨cs', hcs', hh, -⟩ := hp i v hv
          obtain ⟨_, hcl, hcell⟩ := World.cells?_some hcs'
          refine ⟨cs', ⟨hcl, fun j hj => ?_⟩, hh⟩
          have := hcell j hj
          rwa [Addr.add_lit, Addr.add_lit] at this
set_option maxRecDepth 100000 in
theorem value_arg {r : Reach} {b0 : Nat} {v : Value} {d : DataW H} {p : List MemPlace} (hv : Value.okWide Tryd.prog W r b0 27 v) (h : DataW.Trod enc Tryd.prog W 0 (fun _ => true) true 27 v d p) (hwt : ∀ n ∈ d.weights Tryd.prog 27, n ≤ reachBytes) : ∃ x, HoldV W v x ∧ Tame x := by
  obtain ⟨cs, rfl, hsz⟩ := okWide_struct Tryd.underlying27 hv
  obtain ⟨fuel, hf⟩ := h
  obtain ⟨x, hx, ht⟩ := value_open fuel cs.toList _ hf hwt
  exact ⟨x, ⟨cs.toList, rfl, hx⟩, ht⟩
set_option maxRecDepth 100000 in
theorem strs_arg {r : Reach} {b0 : Nat} {v : Value} {d : DataW H} {p : List MemPlace} (hv : Value.okWide Tryd.prog W r b0 24 v) (h : DataW.Trod enc Tryd.prog W 0 (fun _ => true) true 24 v d p) (hwt : ∀ n ∈ d.weights Tryd.prog 24, n ≤ reachBytes) : ∃ x, Ks W v x := by
  obtain ⟨ad, len, cap, rfl⟩ := okWide_slice Tryd.underlying24 hv
  obtain ⟨fuel, hf⟩ := h
  obtain ⟨x, hx, -⟩ := keys_open hf hwt
  exact ⟨x, hx⟩
end
end Go.Proofs.YtjekannajnkejaaDoor.Tre
