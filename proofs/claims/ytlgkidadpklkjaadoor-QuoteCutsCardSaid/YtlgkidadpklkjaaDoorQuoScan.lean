/- The contract of the document's own answer for layer 7 (package tabulariumref07): Scan. Nothing is claimed here. -/
import Derived.Test.YtlgkidadpklkjaaDoorQuoPart
namespace Go.Proofs.YtlgkidadpklkjaaDoor.Quo
open Go.RowKit Kit Txt Utf

theorem scan_nil' : scan [] = err 2 := rfl
theorem scan_no {l : List UInt8} (h0 : 0 < l.length) (h : nb l 0 ≠ 34) : scan l = err 3 := by
  obtain ⟨c, r, rfl⟩ := List.exists_cons_of_ne_nil (List.length_pos_iff.1 h0)
  unfold scan
  dsimp only
  rw [if_pos (by rintro rfl; exact h rfl)]
theorem scan_yes {l : List UInt8} (h : nb l 0 = 34) : scan l = scanF [] 1 (l.drop 1) := by
  obtain ⟨c, r, rfl⟩ := List.exists_cons_of_ne_nil (List.length_pos_iff.1 (nb_ne h (by omega)))
  have hc : c = 34 := UInt8.toNat_inj.1 h
  unfold scan
  dsimp only
  rw [if_neg (by simp [hc])]
  rfl
theorem head_nb (l : List UInt8) (q : Nat) : (l.drop q).head? = some 34 ↔ nb l q = 34 := by
  by_cases h : q < l.length
  · rw [List.drop_eq_getElem_cons h, nb_get h]
    simp only [List.head?_cons, Option.some.injEq]
    exact ⟨fun e => by rw [e]; rfl, fun e => UInt8.toNat_inj.1 e⟩
  · rw [List.drop_eq_nil_of_le (by omega), nb_past (by omega)]
    simp

set_option maxRecDepth 100000 in
set_option maxHeartbeats 8000000 in
theorem rscan_any {w : World} {l : List UInt8} (hl : l.length < 100000) :
    Calls Tryd.prog 14 #[.string (txt l)] w fun e w' => e = .returned (partV (scan l)) ∧ Below w.heap.size w w' := by
  have hs := txt_size l
  have ht0 : (⟨#[]⟩ : ByteArray) = txt [] := rfl
  have hA := World.alloc_heap_new w (.cells #[.string (txt []), .int .i64 0, .int .i64 0] 31)
  have bA : Below w.heap.size w (w.alloc (.cells #[.string (txt []), .int .i64 0, .int .i64 0] 31)) := (Below.refl _ w).alloc (Nat.le_refl _) _
  by_cases h0 : l = []
  · subst h0
    have HC := Lib.hid scan_nil'
    simp only [List.length_nil] at hs
    clear hA bA
    go_enter Tryd.func14, Tryd.ntmps14
    go_wp2_with fail
    refine bodyPost_ret (v := partV (err 2)) (by simp [results, Tryd.results14, go_sem, partV, err, *]) rfl ⟨by rw [HC.out], (Below.refl _ w).alloc (Nat.le_refl _) _⟩
  · have hn := List.length_pos_iff.2 h0
    have hn0 : ((l.length : Int) == 0) = false := by simp [h0]
    have hix := idx hn
    rw [show ((0 : Nat) : Int) = 0 from rfl] at hix
    by_cases h34 : nb l 0 = 34
    · have hsc := scan_yes h34
      have h34' : ((nb l 0 : Int) != 34) = false := by rw [h34]; rfl
      generalize nb l 0 = x at *
      have HS := Lib.hid hsc
      clear hsc h34
      go_enter Tryd.func14, Tryd.ntmps14
      go_wp2_with fail
      go_loopw [3, 4] (fun s a wr => ∃ (S : List UInt8) (q : Nat), s = .string (txt S) ∧ a = .int .i64 q ∧ q ≤ l.length ∧ S.length ≤ 4 * q ∧ scan l = scanF S q (l.drop q) ∧ wr.heap[w.heap.size]? = some (.cells #[.string (txt []), .int .i64 0, .int .i64 0] 31 (0, 0)) ∧ Below w.heap.size w wr) (fun _ a _ => l.length - (intOf a).toNat)
      case atStart => exact ⟨[], 1, by first | rfl | exact ht0 ▸ rfl, rfl, by omega, by simp, HS.out, hA, bA⟩
      case round =>
        clear hA bA HS hix
        obtain ⟨S, q, rfl, rfl, hq, hSl, hsc, hA, bA⟩ := hrel
        have hh := head_nb l q
        have hwq : IntKind.i64.wrap ((q : Int) + 1) = (q : Int) + 1 := by simp only [IntKind.wrap, IntKind.signed, IntKind.bits]; simp; omega
        by_cases he : nb l q = 34
        · have hlt := nb_ne he (by omega)
          have hlt' : (q : Int) < (l.length : Int) := by omega
          have hix := idx hlt
          rw [he] at hix
          rw [scanF_end (hh.2 he)] at hsc
          have HC := Lib.hid hsc
          obtain ⟨q0, q1, q2⟩ := three hA
          have qf := free_of hA
          clear hA hh he hsc
          go_wp2_with fail
          refine bodyPost_ret (v := partV ⟨S, q + 1, 0⟩) (by simp [results, Tryd.results14, go_sem, partV, *]) rfl ⟨by rw [HC.out], below_set3 bA (Nat.le_refl _) _ _ _⟩
        · have hne : (l.drop q).head? ≠ some 34 := fun e => he (hh.1 e)
          have hp := fun wx => part_any (w := wx) (l := l) (i := q) (by omega) (by omega)
          have hok := fun e => part_ok (l := l.drop q) e
          have hon := fun e => scanF_on (s := S) (at' := q) hne e
          have her := fun e => scanF_err (s := S) (at' := q) hne e
          rw [List.length_drop] at hok
          simp only [List.drop_drop] at hon
          generalize part (l.drop q) = p at *
          have hcase : (decide (q < l.length) = true ∧ (q : Int) < (l.length : Int) ∧ (∀ wx : World, (Instr.index 9 (.string (txt l)) (.int .i64 (q : Int))).run Tryd.prog wx = .ok (.int .u8 (nb l q : Int)) wx)) ∨ decide (q < l.length) = false := by
            by_cases h : q < l.length
            · left
              exact ⟨decide_eq_true h, by omega, fun wx => idx h wx⟩
            · right
              exact decide_eq_false h
          have he' : ((nb l q : Int) == 34) = false := by simp; omega
          generalize nb l q = y at *
          by_cases c0 : p.e = 0
          · obtain ⟨cc, hsc1, hps, hsz1, hsz2⟩ := hok c0
            have hel := (enc_len (c := cc)).2
            rw [← hps] at hel
            rw [hon c0] at hsc
            obtain ⟨ps, pz, pe⟩ := p
            dsimp only at c0 hps hsz1 hsz2 hel hsc
            subst c0
            obtain ⟨f1, g1⟩ := add_lit (a := S) (b := ps) (c := S ++ ps) rfl rfl (by omega) (by omega)
            have wz : IntKind.i64.wrap ((q : Int) + (pz : Int)) = (q : Int) + (pz : Int) := by simp only [IntKind.wrap, IntKind.signed, IntKind.bits]; simp; omega
            have HC := Lib.hid hsc
            simp only [partV] at hp
            clear hok hon her hsc hh hne he hps hsc1
            rcases hcase with ⟨d1, d1', hix⟩ | d1
            all_goals
              go_wp2_with fail
              refine (hp _).mono ?_
              rintro e w2 ⟨rfl, k2⟩
              have hA2 := new_of ((k2.block _ (lt_of_heap hA)).trans hA) (.cells #[.string (txt ps), .int .i64 pz, .int .i64 0] 31)
              have b2 := (bA.trans (k2.mono bA.size)).alloc (bA.trans (k2.mono bA.size)).size (.cells #[.string (txt ps), .int .i64 pz, .int .i64 0] 31)
              clear k2
              go_wp2_with fail
              go_roundw
              case rel => exact ⟨S ++ ps, q + pz, rfl, by go_num, by omega, by rw [List.length_append]; omega, HC.out, hA2, b2⟩
              case measure => simp [intOf]; omega
          · rw [her c0] at hsc
            obtain ⟨ps, pz, pe⟩ := p
            dsimp only at c0 hsc
            have c0' : ((pe : Int) != 0) = true := by simp; omega
            have HC := Lib.hid hsc
            simp only [partV] at hp
            clear hok hon her hsc hh hne he
            rcases hcase with ⟨d1, d1', hix⟩ | d1
            all_goals
              go_wp2_with fail
              refine (hp _).mono ?_
              rintro e w2 ⟨rfl, k2⟩
              have hA2 := (k2.block _ (lt_of_heap hA)).trans hA
              have b2 := bA.trans (k2.mono bA.size)
              obtain ⟨q0, q1, q2⟩ := three hA2
              have qf := free_of hA2
              have hlt2 := lt_of_heap hA2
              clear k2
              go_wp2_with fail
              refine bodyPost_ret (v := partV (err pe)) (by simp [results, Tryd.results14, go_sem, partV, err, *]) rfl ⟨by rw [HC.out], (below_set3 b2 (Nat.le_refl _) _ _ _).alloc (below_set3 b2 (Nat.le_refl _) _ _ _).size _⟩
    · have hsc := scan_no hn h34
      have h34' : ((nb l 0 : Int) != 34) = true := by simp; omega
      generalize nb l 0 = x at *
      have HC := Lib.hid hsc
      clear hsc h34 hA bA
      go_enter Tryd.func14, Tryd.ntmps14
      go_wp2_with fail
      refine bodyPost_ret (v := partV (err 3)) (by simp [results, Tryd.results14, go_sem, partV, err, *]) rfl ⟨by rw [HC.out], (Below.refl _ w).alloc (Nat.le_refl _) _⟩
end Go.Proofs.YtlgkidadpklkjaaDoor.Quo
