/- The contract of the document's own answer for layer 7 (package tabulariumref07): coded. Nothing is claimed here. -/
import Derived.Test.YtlgkidadpklkjaaDoorQuoHex
import Derived.Test.YtlgkidadpklkjaaDoorUtfRefB
import Derived.Deep.Cut
namespace Go.Proofs.YtlgkidadpklkjaaDoor.Quo
open Go.RowKit Kit Txt Utf

/-- A part, as a value. -/
def partV (p : Part) : Value := .agg #[.string (txt p.s), .int .i64 p.size, .int .i64 p.e]

theorem follow_nb (l : List UInt8) (q : Nat) : follow (l.drop q) = if l.length ≤ q then 2 else if nb l q ≠ 92 then 3 else if l.length ≤ q + 1 then 2 else if nb l (q + 1) ≠ 117 then 3 else 0 := by
  by_cases h : l.length ≤ q
  · rw [if_pos h, List.drop_eq_nil_of_le h]
    rfl
  rw [if_neg h, List.drop_eq_getElem_cons (by omega), nb_get (by omega)]
  unfold follow
  dsimp only
  have e1 : (l[q]).toNat ≠ 92 ↔ l[q] ≠ 92 := not_congr ⟨fun e => UInt8.toNat_inj.1 e, fun e => by rw [e]; rfl⟩
  by_cases h2 : l[q] ≠ 92
  · rw [if_pos h2, if_pos (e1.2 h2)]
  rw [if_neg h2, if_neg (fun e => h2 (e1.1 e))]
  by_cases h3 : l.length ≤ q + 1
  · rw [if_pos h3, List.drop_eq_nil_of_le h3]
  rw [if_neg h3, List.drop_eq_getElem_cons (by omega), nb_get (by omega)]
  dsimp only
  have e2 : (l[q + 1]).toNat ≠ 117 ↔ l[q + 1] ≠ 117 := not_congr ⟨fun e => UInt8.toNat_inj.1 e, fun e => by rw [e]; rfl⟩
  by_cases h4 : l[q + 1] ≠ 117
  · rw [if_pos h4, if_pos (e2.2 h4)]
  rw [if_neg h4, if_neg (fun e => h4 (e2.1 e))]

set_option maxRecDepth 100000 in
set_option maxHeartbeats 8000000 in
theorem coded_any {w : World} {l : List UInt8} {i : Nat} (hl : l.length < 1000000) (hi : i < 1000000) :
    Calls Tryd.prog 35 #[.string (txt l), .int .i64 i] w fun e w' => e = .returned (partV (coded (l.drop (i + 2)))) ∧ Below w.heap.size w w' := by
  have hs := txt_size l
  have ht0 : (⟨#[]⟩ : ByteArray) = txt [] := rfl
  have hA := World.alloc_heap_new w (.cells #[.string (txt []), .int .i64 0, .int .i64 0] 31)
  have bA : Below w.heap.size w (w.alloc (.cells #[.string (txt []), .int .i64 0, .int .i64 0] 31)) := (Below.refl _ w).alloc (Nat.le_refl _) _
  have hu1 := fun wx => unit_any (w := wx) (l := l) (i := i + 2) hl (by omega)
  have hu2 := fun wx => unit_any (w := wx) (l := l) (i := i + 8) hl (by omega)
  have hb1 := unit_lt (l.drop (i + 2))
  have hb2 := unit_lt (l.drop (i + 8))
  have hf := follow_nb l (i + 6)
  have hco : coded (l.drop (i + 2)) = if (unit (l.drop (i + 2))).2 ≠ 0 then err (unit (l.drop (i + 2))).2
      else if 56320 ≤ (unit (l.drop (i + 2))).1 ∧ (unit (l.drop (i + 2))).1 ≤ 57343 then err 3
      else if (unit (l.drop (i + 2))).1 < 55296 ∨ 57343 < (unit (l.drop (i + 2))).1 then ⟨enc (unit (l.drop (i + 2))).1, 6, 0⟩
      else if follow (l.drop (i + 6)) ≠ 0 then err (follow (l.drop (i + 6)))
      else if (unit (l.drop (i + 8))).2 ≠ 0 then err (unit (l.drop (i + 8))).2
      else if (unit (l.drop (i + 8))).1 < 56320 ∨ 57343 < (unit (l.drop (i + 8))).1 then err 3
      else ⟨enc (65536 + ((unit (l.drop (i + 2))).1 - 55296) * 1024 + ((unit (l.drop (i + 8))).1 - 56320)), 12, 0⟩ := by
    unfold coded
    rw [List.drop_drop, List.drop_drop]
  generalize follow (l.drop (i + 6)) = fo at *
  obtain ⟨⟨n, e1⟩, hne⟩ : ∃ x, unit (l.drop (i + 2)) = x := ⟨_, rfl⟩
  obtain ⟨⟨m, e2⟩, hme⟩ : ∃ x, unit (l.drop (i + 8)) = x := ⟨_, rfl⟩
  rw [hne] at hb1 hco
  rw [hme] at hb2 hco
  simp only [hne] at hu1
  simp only [hme] at hu2
  dsimp only at hb1 hb2 hco
  have hci2 : ((i + 2 : Nat) : Int) = (i : Int) + 2 := by omega
  have hci8 : ((i + 8 : Nat) : Int) = (i : Int) + 8 := by omega
  simp only [hci2] at hu1
  simp only [hci8] at hu2
  clear hne hme hci2 hci8
  have HF := Lib.hid hf
  clear hf
  by_cases c1 : e1 = 0
  · subst c1
    rw [if_neg (by simp)] at hco
    by_cases c2 : 56320 ≤ n ∧ n ≤ 57343
    · rw [if_pos c2] at hco
      have HC := Lib.hid hco
      have d1 : (56320 : Int) ≤ (n : Int) := by omega
      have d2 : (n : Int) ≤ 57343 := by omega
      clear hco hA bA
      go_enter Tryd.func35, Tryd.ntmps35
      go_wp2_with fail
      refine (hu1 _).mono ?_
      rintro e w1 ⟨rfl, rfl⟩
      go_wp2_with fail
      refine bodyPost_ret (v := partV (err 3)) (by simp [results, Tryd.results35, go_sem, partV, err, *]) rfl ⟨by rw [HC.out], (Below.refl _ w).alloc (Nat.le_refl _) _⟩
    · rw [if_neg c2] at hco
      have hcase2 : decide ((56320 : Int) ≤ (n : Int)) = false ∨ (decide ((56320 : Int) ≤ (n : Int)) = true ∧ decide ((n : Int) ≤ 57343) = false) := by simp; omega
      by_cases c3 : n < 55296 ∨ 57343 < n
      · rw [if_pos c3] at hco
        have hpu := fun wx => rput_any (w := wx) (c := (n : Int)) (by omega) (by omega)
        have hsc : Scalar n := by unfold Scalar; omega
        simp only [putL_of hsc] at hpu
        have hpu' : ∀ wx, Calls Tryd.prog 40 #[.int .i64 (n : Int)] wx fun e w' => e = .returned (.string (txt (enc n))) ∧ Below wx.heap.size wx w' := hpu
        generalize enc n = en at *
        have hcase3 : decide ((n : Int) < 55296) = true ∨ (decide ((n : Int) < 55296) = false ∧ decide ((57343 : Int) < (n : Int)) = true) := by simp; omega
        have HC := Lib.hid hco
        clear hco hpu c2 c3 hsc
        rcases hcase2 with d1 | ⟨d1, d2⟩ <;> rcases hcase3 with d3 | ⟨d3, d4⟩
        all_goals
          go_enter Tryd.func35, Tryd.ntmps35
          go_wp2_with fail
          refine (hu1 _).mono ?_
          rintro e w1 ⟨rfl, rfl⟩
          go_wp2_with fail
          refine (hpu' _).mono ?_
          rintro e w2 ⟨rfl, k2⟩
          have hA2 := (k2.block _ (lt_of_heap hA)).trans hA
          have b2 := bA.trans (k2.mono bA.size)
          obtain ⟨q0, q1, q2⟩ := three hA2
          have qf := free_of hA2
          clear hA hA2 k2 bA hpu' hu1 hu2
          go_wp2_with fail
          refine bodyPost_ret (v := partV ⟨en, 6, 0⟩) (by simp [results, Tryd.results35, go_sem, partV, *]) rfl ⟨by rw [HC.out], below_set3 b2 (Nat.le_refl _) _ _ _⟩
      · rw [if_neg c3] at hco
        have d3 : decide ((n : Int) < 55296) = false := by simp; omega
        have d4 : decide ((57343 : Int) < (n : Int)) = false := by simp; omega
        have d1 : decide ((56320 : Int) ≤ (n : Int)) = false := by simp; omega
        have hn1 : 55296 ≤ n ∧ n < 56320 := by omega
        have HC0 := Lib.hid hco
        obtain ⟨q, hq⟩ : ∃ q, i + 6 = q := ⟨_, rfl⟩
        have hqi : (i : Int) + 6 = (q : Int) := by omega
        have wq : IntKind.i64.wrap (q : Int) = (q : Int) := by simp only [IntKind.wrap, IntKind.signed, IntKind.bits]; simp; omega
        have hf := HF.out
        have hq1e : i + 6 + 1 = q + 1 := by omega
        rw [hq1e, hq] at hf
        have HF2 := Lib.hid hf
        clear hco hf HF c2 c3 hcase2 hq1e hq
        go_enter Tryd.func35, Tryd.ntmps35
        go_wp2_with fail
        refine (hu1 _).mono ?_
        rintro e w1 ⟨rfl, rfl⟩
        go_wp2_with fail
        go_loopw [7] (fun j wr => ∃ k : Nat, k ≤ 2 ∧ j = .int .i64 k ∧ (1 ≤ k → q < l.length ∧ nb l q = 92) ∧ (2 ≤ k → q + 1 < l.length ∧ nb l (q + 1) = 117) ∧ wr.heap[w.heap.size]? = some (.cells #[.string (txt []), .int .i64 0, .int .i64 0] 31 (0, 0)) ∧ Below w.heap.size w wr) (fun j _ => 2 - (intOf j).toNat)
        case atStart => exact ⟨0, by omega, rfl, by omega, by omega, hA, bA⟩
        case round =>
          clear hA bA
          obtain ⟨k, hk, rfl, hk1, hk2, hA, bA⟩ := hrel
          obtain ⟨q0, q1, q2⟩ := three hA
          have qf := free_of hA
          rcases (show k = 0 ∨ k = 1 ∨ k = 2 by omega) with rfl | rfl | rfl
          · by_cases hlt : q < l.length
            · have hlt' : decide (l.length ≤ q) = false := by simp; omega
              have hix := idx hlt
              have hA2 : (wr.alloc (.cells #[.int .u8 92, .int .u8 117] 5)).drew.heap[w.heap.size]? = some (.cells #[.string (txt []), .int .i64 0, .int .i64 0] 31 (0, 0)) := new_of hA _
              have b2 : Below w.heap.size w (wr.alloc (.cells #[.int .u8 92, .int .u8 117] 5)).drew := below_drewN (bA.alloc bA.size _) 1
              by_cases h92 : nb l q = 92
              · rw [h92] at hix
                have HH := Lib.hid (show q < l.length ∧ nb l q = 92 from ⟨hlt, h92⟩)
                clear hk1 hk2 h92
                go_upto_region 13 with fail
                go_region
                all_goals
                  go_wp2_with fail
                  go_roundw
                  case rel => exact ⟨1, by omega, by first | rfl | go_num, fun _ => HH.out, by omega, hA2, b2⟩
                  case measure => simp [intOf]
              · have hfo : fo = 3 := by rw [HF2.out, if_neg (by omega), if_pos h92]
                have hco := HC0.out
                rw [hfo, if_pos (by decide)] at hco
                have HC := Lib.hid hco
                have h92' : ((nb l q : Int) != 92) = true := by simp; omega
                generalize nb l q = x at *
                clear hk1 hk2 hco HC0 HF2 hA bA q0 q1 q2 qf
                go_upto_region 13 with fail
                go_region
                all_goals
                  generalize (wr.alloc (.cells #[.int .u8 92, .int .u8 117] 5)).drew = wz at *
                  obtain ⟨q0, q1, q2⟩ := three hA2
                  have qf := free_of hA2
                  go_wp2_with fail
                  refine bodyPost_ret (v := partV (err 3)) (by simp [results, Tryd.results35, go_sem, partV, err, *]) rfl ⟨by rw [HC.out], below_set3 b2 (Nat.le_refl _) _ _ _⟩
            · have hlt' : decide (l.length ≤ q) = true := by simp; omega
              have hfo : fo = 2 := by rw [HF2.out, if_pos (by omega)]
              have hco := HC0.out
              rw [hfo, if_pos (by decide)] at hco
              have HC := Lib.hid hco
              clear hco HC0 HF2 hk1 hk2
              go_wp2_with fail
              refine bodyPost_ret (v := partV (err 2)) (by simp [results, Tryd.results35, go_sem, partV, err, *]) rfl ⟨by rw [HC.out], below_set3 bA (Nat.le_refl _) _ _ _⟩
          · have H1 := Lib.hid (hk1 (by omega))
            obtain ⟨qz, hqz⟩ : ∃ qz, q + 1 = qz := ⟨_, rfl⟩
            have hqi1 : (q : Int) + 1 = (qz : Int) := by omega
            have wq1 : IntKind.i64.wrap (qz : Int) = (qz : Int) := by simp only [IntKind.wrap, IntKind.signed, IntKind.bits]; simp; omega
            rw [hqz] at HF2 ⊢
            by_cases hlt : qz < l.length
            · have hlt' : decide (l.length ≤ qz) = false := by simp; omega
              have hix := idx hlt
              have hA2 : (wr.alloc (.cells #[.int .u8 92, .int .u8 117] 5)).drew.heap[w.heap.size]? = some (.cells #[.string (txt []), .int .i64 0, .int .i64 0] 31 (0, 0)) := new_of hA _
              have b2 : Below w.heap.size w (wr.alloc (.cells #[.int .u8 92, .int .u8 117] 5)).drew := below_drewN (bA.alloc bA.size _) 1
              by_cases h92 : nb l qz = 117
              · rw [h92] at hix
                have HH := Lib.hid (show qz < l.length ∧ nb l qz = 117 from ⟨hlt, h92⟩)
                clear hk1 hk2 h92
                go_upto_region 13 with fail
                go_region
                all_goals
                  go_wp2_with fail
                  go_roundw
                  case rel => exact ⟨2, by omega, by first | rfl | go_num, fun _ => H1.out, fun _ => HH.out, hA2, b2⟩
                  case measure => simp [intOf]
              · have hfo : fo = 3 := by rw [HF2.out, if_neg (by have := H1.out; omega), if_neg (by have := H1.out; omega), if_neg (by omega), if_pos h92]
                have hco := HC0.out
                rw [hfo, if_pos (by decide)] at hco
                have HC := Lib.hid hco
                have h92' : ((nb l qz : Int) != 117) = true := by simp; omega
                generalize nb l qz = x at *
                clear hk1 hk2 hco HC0 HF2 hA bA q0 q1 q2 qf
                go_upto_region 13 with fail
                go_region
                all_goals
                  generalize (wr.alloc (.cells #[.int .u8 92, .int .u8 117] 5)).drew = wz at *
                  obtain ⟨q0, q1, q2⟩ := three hA2
                  have qf := free_of hA2
                  go_wp2_with fail
                  refine bodyPost_ret (v := partV (err 3)) (by simp [results, Tryd.results35, go_sem, partV, err, *]) rfl ⟨by rw [HC.out], below_set3 b2 (Nat.le_refl _) _ _ _⟩
            · have hlt' : decide (l.length ≤ qz) = true := by simp; omega
              have hfo : fo = 2 := by rw [HF2.out, if_neg (by have := H1.out; omega), if_neg (by have := H1.out; omega), if_pos (by omega)]
              have hco := HC0.out
              rw [hfo, if_pos (by decide)] at hco
              have HC := Lib.hid hco
              clear hco HC0 HF2 hk1 hk2
              go_wp2_with fail
              refine bodyPost_ret (v := partV (err 2)) (by simp [results, Tryd.results35, go_sem, partV, err, *]) rfl ⟨by rw [HC.out], below_set3 bA (Nat.le_refl _) _ _ _⟩
          · obtain ⟨h1, h2⟩ := hk1 (by omega)
            obtain ⟨h3, h4⟩ := hk2 (by omega)
            have hfo : fo = 0 := by rw [HF2.out, if_neg (by omega), if_neg (by omega), if_neg (by omega), if_neg (by omega)]
            have hco := HC0.out
            rw [hfo, if_neg (by simp)] at hco
            clear HC0 HF2 hk1 hk2 h1 h2 h3 h4 hfo
            by_cases c5 : e2 = 0
            · subst c5
              rw [if_neg (by simp)] at hco
              by_cases c6 : m < 56320 ∨ 57343 < m
              · rw [if_pos c6] at hco
                have HC := Lib.hid hco
                have hcase : decide ((m : Int) < 56320) = true ∨ (decide ((m : Int) < 56320) = false ∧ decide ((57343 : Int) < (m : Int)) = true) := by simp; omega
                clear hco c6
                rcases hcase with d5 | ⟨d5, d6⟩
                all_goals
                  go_wp2_with fail
                  refine (hu2 _).mono ?_
                  rintro e w3 ⟨rfl, rfl⟩
                  go_wp2_with fail
                  refine bodyPost_ret (v := partV (err 3)) (by simp [results, Tryd.results35, go_sem, partV, err, *]) rfl ⟨by rw [HC.out], below_set3 bA (Nat.le_refl _) _ _ _⟩
              · rw [if_neg c6] at hco
                have d5 : decide ((m : Int) < 56320) = false := by simp; omega
                have d6 : decide ((57343 : Int) < (m : Int)) = false := by simp; omega
                obtain ⟨cc, hcc⟩ : ∃ cc, 65536 + (n - 55296) * 1024 + (m - 56320) = cc := ⟨_, rfl⟩
                rw [hcc] at hco
                have hE : 65536 + ((n : Int) - 55296) * 1024 + (m : Int) - 56320 = (cc : Int) := by omega
                have hsc : Scalar cc := by unfold Scalar; omega
                have hpu := fun wx => rput_any (w := wx) (c := 65536 + ((n : Int) - 55296) * 1024 + (m : Int) - 56320) (by omega) (by omega)
                simp only [hE, putL_of hsc] at hpu
                have hpu' : ∀ wx, Calls Tryd.prog 40 #[.int .i64 (cc : Int)] wx fun e w' => e = .returned (.string (txt (enc cc))) ∧ Below wx.heap.size wx w' := hpu
                have wcc : IntKind.i64.wrap (cc : Int) = (cc : Int) := by simp only [IntKind.wrap, IntKind.signed, IntKind.bits]; simp; omega
                have HC := Lib.hid hco
                clear hco hpu c6 hcc hsc
                generalize enc cc = en at *
                go_wp2_with fail
                refine (hu2 _).mono ?_
                rintro e w3 ⟨rfl, rfl⟩
                go_wp2_with fail
                refine (hpu' _).mono ?_
                rintro e w4 ⟨rfl, k4⟩
                have hA4 := (k4.block _ (lt_of_heap hA)).trans hA
                have b4 := bA.trans (k4.mono bA.size)
                clear q0 q1 q2 qf hA bA k4 hpu' hu1 hu2
                obtain ⟨q0, q1, q2⟩ := three hA4
                have qf := free_of hA4
                go_wp2_with fail
                refine bodyPost_ret (v := partV ⟨en, 12, 0⟩) (by simp [results, Tryd.results35, go_sem, partV, *]) rfl ⟨by rw [HC.out], below_set3 b4 (Nat.le_refl _) _ _ _⟩
            · rw [if_pos c5] at hco
              have HC := Lib.hid hco
              have c5' : ((e2 : Int) != 0) = true := by simp; omega
              clear hco
              go_wp2_with fail
              refine (hu2 _).mono ?_
              rintro e w3 ⟨rfl, rfl⟩
              go_wp2_with fail
              refine bodyPost_ret (v := partV (err e2)) (by simp [results, Tryd.results35, go_sem, partV, err, *]) rfl ⟨by rw [HC.out], below_set3 bA (Nat.le_refl _) _ _ _⟩
  · rw [if_pos c1] at hco
    have HC := Lib.hid hco
    have c1' : ((e1 : Int) != 0) = true := by simp; omega
    clear hco hA bA
    go_enter Tryd.func35, Tryd.ntmps35
    go_wp2_with fail
    refine (hu1 _).mono ?_
    rintro e w1 ⟨rfl, rfl⟩
    go_wp2_with fail
    refine bodyPost_ret (v := partV (err e1)) (by simp [results, Tryd.results35, go_sem, partV, err, *]) rfl ⟨by rw [HC.out], (Below.refl _ w).alloc (Nat.le_refl _) _⟩
end Go.Proofs.YtlgkidadpklkjaaDoor.Quo
