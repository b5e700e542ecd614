/- A quoted text, part by part; what is told of bytes is no longer than four times these (pure). A set of texts, as a map of the call's own from texts to bools: it is asked, and added to. Nothing is claimed here. -/
import Derived.Test.YtehpjidajmoggaaGreatDoorQuoRead
import Derived.Test.YtehpjidajmoggaaGreatDoorTexts
import Derived.Maps.OwnSet
namespace Go.Proofs.YtehpjidajmoggaaGreatDoor.Quo
open Utf

theorem scanF_step {s l l' : List UInt8} {at' : Nat} {p : Part} (h : l.head? ≠ some 34) (hp : part l = p) (he : p.e = 0) (hd : l.drop p.size = l') : scanF s at' l = scanF (s ++ p.s) (at' + p.size) l' := by
  subst hp; subst hd
  exact scanF_on h he
theorem scanF_stop {s l : List UInt8} {at' : Nat} {p : Part} (h : l.head? ≠ some 34) (hp : part l = p) (he : p.e ≠ 0) : scanF s at' l = err p.e := by
  subst hp
  exact scanF_err h he
/-- What is told of bytes is no longer than so. -/
theorem scanF_len : ∀ (k : Nat) (l : List UInt8), l.length = k → ∀ (s : List UInt8) (at' : Nat), (scanF s at' l).s.length ≤ s.length + 4 * l.length := by
  intro k
  induction k using Nat.strongRecOn with
  | ind k ih =>
    intro l hl s at'
    by_cases h1 : l.head? = some 34
    · rw [scanF_end h1]
      dsimp only
      omega
    · by_cases he : (part l).e = 0
      · rw [scanF_on h1 he]
        obtain ⟨c, k1, k2, k3, k4⟩ := part_ok he
        have := ih (l.drop (part l).size).length (by rw [List.length_drop]; omega) _ rfl (s ++ (part l).s) (at' + (part l).size)
        have he4 := (enc_len (c := c)).2
        have e2 := congrArg List.length k2
        rw [List.length_append, List.length_drop] at this
        omega
      · rw [scanF_err h1 he]
        exact Nat.zero_le _
theorem scan_len (l : List UInt8) : (scan l).s.length ≤ 4 * l.length := by
  unfold scan
  split
  · exact Nat.zero_le _
  · split
    · exact Nat.zero_le _
    · rename_i c r _
      have := scanF_len r.length r rfl [] 1
      simp only [List.length_nil, List.length_cons] at *
      omega
end Go.Proofs.YtehpjidajmoggaaGreatDoor.Quo
namespace Go.Proofs.YtehpjidajmoggaaGreatDoor.Tre
open Go.RowKit Kit Txt Go.Maps

theorem keyedS : Keyed Tryz.prog 9 := string_keyed Tryz.underlying9
theorem key_txt {l : List UInt8} (hl : l.length < 1000000000) : keyOf Tryz.prog 9 (.string (txt l)) = some (.string l) := by
  have h := WideMaps.keyOf_string_mk (P := Tryz.prog) (k := 9) Tryz.underlying9 (s := txt l) (by rw [txt_size]; unfold maxLen; omega)
  rwa [txt_list] at h
set_option maxRecDepth 100000 in
theorem plain_bool_inv {v : Value} {b : Bool} {ps : List MemPlace} (h : plainElem (H := Unit) Tryz.prog 4 v = some (.lit (.bool b), ps)) : v = .bool b := by
  unfold plainElem at h
  rw [Tryz.underlying4] at h
  cases v <;> simp_all

/-- The set of the first j keys. -/
def Seen (w : World) (b j : Nat) (ks : List (List UInt8)) : Prop :=
  ∃ D : DataW Unit, w.ownsMap Tryz.prog 9 (plainElem Tryz.prog 4) b j D ∧ ∀ l : List UInt8, l.length < 1000000000 → D.atKey (.string l) (.lit (.bool false)) = .lit (.bool (decide (l ∈ ks.take j)))
theorem Seen.made (w : World) (ks : List (List UInt8)) : Seen (w.alloc (.map #[] 0)) w.heap.size 0 ks := by
  refine ⟨.map [], World.ownsMap_made _ _ _ _, fun l _ => ?_⟩
  simp [DataW.atKey]
theorem Seen.look {w : World} {b j : Nat} {ks : List (List UInt8)} (h : Seen w b j ks) {l : List UInt8} (hl : l.length < 1000000000) (hz : (zeroValue 4).run Tryz.prog w = .ok (.bool false) w) : (Instr.lookup 61 (.map (some b)) (.string (txt l)) false).run Tryz.prog w = .ok (.bool (decide (l ∈ ks.take j))) w := by
  obtain ⟨D, hown, hD⟩ := h
  obtain ⟨v, ps, hrun, hv⟩ := hown.lookup keyedS Tryz.underlying61 hz (plainElem_bool Tryz.underlying4 false) (key_txt hl)
  rw [hD l hl] at hv
  rw [hrun, plain_bool_inv hv]
theorem Seen.put {w : World} {b j : Nat} {ks : List (List UInt8)} (h : Seen w b j ks) (hj : j < ks.length) (hn : ks.length ≤ 9223372036854775807) (hl : ks[j].length < 1000000000) : ∃ w', (Instr.mapUpdate 61 (.map (some b)) (.string (txt ks[j])) (.bool true)).run Tryz.prog w = .ok () w' ∧ Seen w' b (j + 1) ks ∧ w.grownBy w' (some b) := by
  obtain ⟨D, hown, hD⟩ := h
  obtain ⟨w', hrun, hown', hg⟩ := hown.update keyedS Tryz.underlying61 (by unfold maxLen; omega) (key_txt hl) (plainElem_bool Tryz.underlying4 true)
  refine ⟨w', hrun, ⟨_, hown', fun l hll => ?_⟩, hg⟩
  rw [List.take_succ_eq_append_getElem hj]
  by_cases e : l = ks[j]
  · subst e
    rw [atKey_put_same hown.isMap (keyedS.key (key_txt hl)), decide_eq_true (List.mem_append.2 (.inr (List.mem_singleton.2 rfl)))]
  · rw [atKey_put_other (fun h => e (by injection h)), hD l hll, decide_eq_decide.2 ⟨fun h => List.mem_append.2 (.inl h), fun h => (List.mem_append.1 h).resolve_right fun h => e (List.mem_singleton.1 h)⟩]
theorem Seen.grown {w w' : World} {b j : Nat} {ks : List (List UInt8)} (h : Seen w b j ks) (hg : Below w.heap.size w w') : Seen w' b j ks := by
  obtain ⟨D, ⟨es, clock, hb, rest⟩, hD⟩ := h
  exact ⟨D, ⟨es, clock, (hg.block _ (lt_of_heap hb)).trans hb, rest⟩, hD⟩
end Go.Proofs.YtehpjidajmoggaaGreatDoor.Tre
