/- How an argument that is a slice of slices of bytes is opened; what its bulk bounds. Nothing is claimed here. -/
import Derived.Test.YtkbdahbnjklkoaaSlices
namespace Go.Proofs.Ytkbdahbnjklkoaa.Sls
open Go.RowKit Kit Byt Go.ChangeShapes Go.WideShapes

theorem bulk_one {H : Type} (d : DataW H) : 1 ≤ Rows.uptoBulk d := by
  cases d with
  | lit l => cases l <;> simp [Rows.uptoBulk]
  | nil => simp [Rows.uptoBulk]
  | ptr d => simp [Rows.uptoBulk]
  | slice elems spare => simp [Rows.uptoBulk]
  | agg parts => simp [Rows.uptoBulk]
  | iface t d => simp [Rows.uptoBulk]
  | map entries => simp [Rows.uptoBulk]
  | held h => simp [Rows.uptoBulk]
theorem bulk_len {H : Type} : ∀ (l : List (DataW H)), l.length ≤ Rows.uptoBulkAll l
  | [] => Nat.zero_le _
  | d :: l => by
    have h1 := bulk_one d
    have h2 := bulk_len l
    simp only [Rows.uptoBulkAll, List.length_cons]
    omega

/-- Cells that read as a slice of bytes. -/
theorem bytes_of {H : Type} {enc : TypeId × Value → H} {W : World} {fuel : Nat} {cs : List Value} {x : DataW H × List MemPlace}
    (hf : DataW.trod enc Try.prog W 0 (fun _ => true) true fuel 22 cs = some x) : ∃ u l, cs = [u] ∧ Bs W u l ∧ l.length + 1 ≤ Rows.uptoBulk x.1 := by
  rcases open_ints Try.underlying22 Try.underlying5 (by kernel_rfl) hf with ⟨hc, hx⟩ | ⟨ad, len, cap, zs, hc, _, _, _, hz, hx, _, _⟩
  · subst hc
    obtain ⟨l, hl, hb⟩ := bytes_open hf
    refine ⟨_, l, rfl, hb, ?_⟩
    rw [hx, hl]
    exact bulk_one _
  · subst hc
    obtain ⟨l, hl, hb⟩ := bytes_open hf
    refine ⟨_, l, rfl, hb, ?_⟩
    rw [hx, hl]
    simp only [Rows.uptoBulk]
    have h1 := bulk_len (lits (H := H) .u8 (zs.take len))
    simp only [if_true] at hz
    have h2 : (lits (H := H) .u8 (zs.take len)).length = len := by
      rw [lits, List.length_map, List.length_take]
      omega
    omega

/-- All bytes of slices, and one more for each. -/
def total (ls : List (List Nat)) : Nat := (ls.map fun l => l.length + 1).sum
theorem total_le {H : Type} : ∀ (ls : List (List Nat)) (ds : List (DataW H)), ls.length = ds.length → (∀ (i : Nat) (l : List Nat) (d : DataW H), ls[i]? = some l → ds[i]? = some d → l.length + 1 ≤ Rows.uptoBulk d) → total ls ≤ Rows.uptoBulkAll ds
  | [], _, _, _ => Nat.zero_le _
  | l :: ls, [], h, _ => by simp at h
  | l :: ls, d :: ds, h, hb => by
    have h1 := hb 0 l d rfl rfl
    have h2 := total_le ls ds (by simpa using h) (fun i l d h1 h2 => hb (i + 1) l d (by simpa using h1) (by simpa using h2))
    simp only [total, List.map_cons, List.sum_cons, Rows.uptoBulkAll] at *
    omega

theorem slices_open {H : Type} {enc : TypeId × Value → H} {W : World} {fuel : Nat} {a : Option Addr} {len cap : Nat} {x : DataW H × List MemPlace}
    (hf : DataW.trod enc Try.prog W 0 (fun _ => true) true fuel 49 [.slice a len cap] = some x) : ∃ ls, ls.length = len ∧ Ss W (.slice a len cap) ls ∧ total ls + 1 ≤ Rows.uptoBulk x.1 := by
  have hc1 : Try.prog.cellsOf 22 = 1 := by kernel_rfl
  rcases DataW.trod_slice Try.underlying49 hf with ⟨hc, hx⟩ | ⟨ad, len', cap', elems, rest, n, _, hc, hx, _, hl, hm, hlen, hel, _, _⟩
  · injection hc with hc _
    injection hc with e1 e2 e3
    subst e1; subst e2; subst e3
    refine ⟨[], rfl, ⟨none, 0, rfl, Nat.le_refl _, .inl rfl⟩, ?_⟩
    rw [hx]
    exact bulk_one _
  · injection hc with hc _
    injection hc with e1 e2 e3
    subst e1; subst e2; subst e3
    obtain ⟨ps, hps, hp⟩ := choose_list (n := len) (R := fun i (p : Value × List Nat) => W.cell? (ad.add i) = some p.1 ∧ Bs W p.1 p.2 ∧ ∀ y, elems[i]? = some y → p.2.length + 1 ≤ Rows.uptoBulk y.1) fun i hi => by
      have hE := hel i hi
      rw [hc1, Nat.mul_one] at hE
      have hlt : i < elems.length := by omega
      rw [List.getElem?_eq_getElem hlt, Option.bind_eq_some_iff] at hE
      obtain ⟨cs, hcs, ht⟩ := hE
      obtain ⟨u, l, rfl, hb, hbk⟩ := bytes_of ht
      refine ⟨(u, l), cell_of_cells?_one hcs, hb, fun y hy => ?_⟩
      rw [List.getElem?_eq_getElem hlt] at hy
      injection hy with hy
      subst hy
      exact hbk
    have hlm : (ps.map Prod.snd).length = len := by rw [List.length_map, hps]
    refine ⟨ps.map Prod.snd, hlm, ⟨some ad, cap, by rw [hlm], by rw [hlm]; exact hl, ?_⟩, ?_⟩
    · by_cases h0 : len = 0
      · left
        exact List.length_eq_zero_iff.1 (by omega)
      · obtain ⟨b, off, spot⟩ := ad
        have h00 : 0 < ps.length := by omega
        have hfst := (hp 0 ps[0] (List.getElem?_eq_getElem h00)).1
        have hspot : spot = none := by simpa [Addr.add] using World.cell?_spot hfst
        subst hspot
        rw [Addr.add_lit] at hfst
        refine .inr ⟨b, off, rfl, World.block_lt_of_cell? _ _ hfst, fun i l hi => ?_⟩
        rw [List.getElem?_map, Option.map_eq_some_iff] at hi
        obtain ⟨p, hpi, rfl⟩ := hi
        obtain ⟨h1, h2, _⟩ := hp i p hpi
        rw [Addr.add_lit] at h1
        exact ⟨p.1, h1, h2⟩
    · rw [hx]
      simp only [Rows.uptoBulk]
      have := total_le (ps.map Prod.snd) (elems.map (·.1)) (by rw [hlm, List.length_map]; omega) (fun i l d h1 h2 => by
        rw [List.getElem?_map, Option.map_eq_some_iff] at h1 h2
        obtain ⟨p, hpi, rfl⟩ := h1
        obtain ⟨y, hy, rfl⟩ := h2
        exact (hp i p hpi).2.2 y hy)
      omega
end Go.Proofs.Ytkbdahbnjklkoaa.Sls
