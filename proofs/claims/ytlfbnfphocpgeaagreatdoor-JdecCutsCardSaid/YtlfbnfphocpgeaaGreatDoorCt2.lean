/- A part of what cuts_holds leans on (its texts, put together). Nothing is claimed here. -/
import Derived.Deep.Cut
import Derived.Deep.RegionLaw
import Derived.Deep.RegionHeld3
import Derived.WalkLawsBesides
import Derived.RangeFuncBox
import Derived.Lib.Hide
import Derived.WalkSpells
import Derived.Deep.QuietTactic
import Derived.BigQuiet
import Derived.RangeFuncNested
import Derived.RangeFuncBound
import Derived.RangeFuncCalls
import Derived.RangeFuncLeaves
import Derived.OwnWalkIn
import Derived.TacticsInMore
import Derived.LoopNIn
import Derived.LoopIn
import Derived.Test.YtlfbnfphocpgeaaGreatDoorShelf
import Derived.Test.YtlfbnfphocpgeaaGreatDoorCt1
namespace Go.Proofs.YtlfbnfphocpgeaaGreatDoor.Quo
open Go.RowKit Kit Txt Utf
/-- A part, as a value. -/
def partV (p : Part) : Value := .agg #[.string (txt p.s), .int .i64 p.size, .int .i64 p.e]
theorem follow_nb (l : List UInt8) (q : Nat) : follow (l.drop q) = if l.length ≤ q then 2 else if nb l q ≠ 92 then 3 else if l.length ≤ q + 1 then 2 else if nb l (q + 1) ≠ 117 then 3 else 0 := by
  by_cases h : l.length ≤ q
  · rw [if_pos h, List.drop_eq_nil_of_le h]
    rfl
  rw [if_neg h, List.drop_eq_getElem_cons (by omega), nb_get (by omega)]
  unfold follow
  dsimp only
  have e1 : (l[q]).toNat ≠ 92 ↔ l[q] ≠ 92 := not_congr ⟨fun e => UInt8.toNat_inj.1 e, fun e => by rw [e]; rfl⟩
  by_cases h2 : l[q] ≠ 92
  · rw [if_pos h2, if_pos (e1.2 h2)]
  rw [if_neg h2, if_neg (fun e => h2 (e1.1 e))]
  by_cases h3 : l.length ≤ q + 1
  · rw [if_pos h3, List.drop_eq_nil_of_le h3]
  rw [if_neg h3, List.drop_eq_getElem_cons (by omega), nb_get (by omega)]
  dsimp only
  have e2 : (l[q + 1]).toNat ≠ 117 ↔ l[q + 1] ≠ 117 := not_congr ⟨fun e => UInt8.toNat_inj.1 e, fun e => by rw [e]; rfl⟩
  by_cases h4 : l[q + 1] ≠ 117
  · rw [if_pos h4, if_pos (e2.2 h4)]
  rw [if_neg h4, if_neg (fun e => h4 (e2.1 e))]
set_option maxRecDepth 100000 in
set_option maxHeartbeats 8000000 in
theorem coded_any {w : World} {l : List UInt8} {i : Nat} (hl : l.length < 1000000) (hi : i < 1000000) :
    Calls Tryz.prog 88 #[.string (txt l), .int .i64 i] w fun e w' => e = .returned (partV (coded (l.drop (i + 2)))) ∧ Below w.heap.size w w' := by
  have hs := txt_size l
  have ht0 : (⟨#[]⟩ : ByteArray) = txt [] := rfl
  have hA := World.alloc_heap_new w (.cells #[.string (txt []), .int .i64 0, .int .i64 0] 77)
  have bA : Below w.heap.size w (w.alloc (.cells #[.string (txt []), .int .i64 0, .int .i64 0] 77)) := (Below.refl _ w).alloc (Nat.le_refl _) _
  have hu1 := fun wx => unit_any (w := wx) (l := l) (i := i + 2) hl (by omega)
  have hu2 := fun wx => unit_any (w := wx) (l := l) (i := i + 8) hl (by omega)
  have hb1 := unit_lt (l.drop (i + 2))
  have hb2 := unit_lt (l.drop (i + 8))
  have hf := follow_nb l (i + 6)
  have hco : coded (l.drop (i + 2)) = if (unit (l.drop (i + 2))).2 ≠ 0 then err (unit (l.drop (i + 2))).2
      else if 56320 ≤ (unit (l.drop (i + 2))).1 ∧ (unit (l.drop (i + 2))).1 ≤ 57343 then err 3
      else if (unit (l.drop (i + 2))).1 < 55296 ∨ 57343 < (unit (l.drop (i + 2))).1 then ⟨enc (unit (l.drop (i + 2))).1, 6, 0⟩
      else if follow (l.drop (i + 6)) ≠ 0 then err (follow (l.drop (i + 6)))
      else if (unit (l.drop (i + 8))).2 ≠ 0 then err (unit (l.drop (i + 8))).2
      else if (unit (l.drop (i + 8))).1 < 56320 ∨ 57343 < (unit (l.drop (i + 8))).1 then err 3
      else ⟨enc (65536 + ((unit (l.drop (i + 2))).1 - 55296) * 1024 + ((unit (l.drop (i + 8))).1 - 56320)), 12, 0⟩ := by
    unfold coded
    rw [List.drop_drop, List.drop_drop]
  generalize follow (l.drop (i + 6)) = fo at *
  obtain ⟨⟨n, e1⟩, hne⟩ : ∃ x, unit (l.drop (i + 2)) = x := ⟨_, rfl⟩
  obtain ⟨⟨m, e2⟩, hme⟩ : ∃ x, unit (l.drop (i + 8)) = x := ⟨_, rfl⟩
  rw [hne] at hb1 hco
  rw [hme] at hb2 hco
  simp only [hne] at hu1
  simp only [hme] at hu2
  dsimp only at hb1 hb2 hco
  have hci2 : ((i + 2 : Nat) : Int) = (i : Int) + 2 := by omega
  have hci8 : ((i + 8 : Nat) : Int) = (i : Int) + 8 := by omega
  simp only [hci2] at hu1
  simp only [hci8] at hu2
  clear hne hme hci2 hci8
  have HF := Lib.hid hf
  clear hf
  by_cases c1 : e1 = 0
  · subst c1
    rw [if_neg (by simp)] at hco
    by_cases c2 : 56320 ≤ n ∧ n ≤ 57343
    · rw [if_pos c2] at hco
      have HC := Lib.hid hco
      have d1 : (56320 : Int) ≤ (n : Int) := by omega
      have d2 : (n : Int) ≤ 57343 := by omega
      clear hco hA bA
      go_enter Tryz.func88, Tryz.ntmps88
      go_wp2_with fail
      refine (hu1 _).mono ?_
      rintro e w1 ⟨rfl, rfl⟩
      go_wp2_with fail
      refine bodyPost_ret (v := partV (err 3)) (by simp [results, Tryz.results88, go_sem, partV, err, *]) rfl ⟨by rw [HC.out], (Below.refl _ w).alloc (Nat.le_refl _) _⟩
    · rw [if_neg c2] at hco
      have hcase2 : decide ((56320 : Int) ≤ (n : Int)) = false ∨ (decide ((56320 : Int) ≤ (n : Int)) = true ∧ decide ((n : Int) ≤ 57343) = false) := by simp; omega
      by_cases c3 : n < 55296 ∨ 57343 < n
      · rw [if_pos c3] at hco
        have hpu := fun wx => rput_any (w := wx) (c := (n : Int)) (by omega) (by omega)
        have hsc : Scalar n := by unfold Scalar; omega
        simp only [putL_of hsc] at hpu
        have hpu' : ∀ wx, Calls Tryz.prog 121 #[.int .i64 (n : Int)] wx fun e w' => e = .returned (.string (txt (enc n))) ∧ Below wx.heap.size wx w' := hpu
        generalize enc n = en at *
        have hcase3 : decide ((n : Int) < 55296) = true ∨ (decide ((n : Int) < 55296) = false ∧ decide ((57343 : Int) < (n : Int)) = true) := by simp; omega
        have HC := Lib.hid hco
        clear hco hpu c2 c3 hsc
        rcases hcase2 with d1 | ⟨d1, d2⟩ <;> rcases hcase3 with d3 | ⟨d3, d4⟩
        all_goals
          go_enter Tryz.func88, Tryz.ntmps88
          go_wp2_with fail
          refine (hu1 _).mono ?_
          rintro e w1 ⟨rfl, rfl⟩
          go_wp2_with fail
          refine (hpu' _).mono ?_
          rintro e w2 ⟨rfl, k2⟩
          have hA2 := (k2.block _ (lt_of_heap hA)).trans hA
          have b2 := bA.trans (k2.mono bA.size)
          obtain ⟨q0, q1, q2⟩ := three hA2
          have qf := free_of hA2
          clear hA hA2 k2 bA hpu' hu1 hu2
          go_wp2_with fail
          refine bodyPost_ret (v := partV ⟨en, 6, 0⟩) (by simp [results, Tryz.results88, go_sem, partV, *]) rfl ⟨by rw [HC.out], below_set3 b2 (Nat.le_refl _) _ _ _⟩
      · rw [if_neg c3] at hco
        have d3 : decide ((n : Int) < 55296) = false := by simp; omega
        have d4 : decide ((57343 : Int) < (n : Int)) = false := by simp; omega
        have d1 : decide ((56320 : Int) ≤ (n : Int)) = false := by simp; omega
        have hn1 : 55296 ≤ n ∧ n < 56320 := by omega
        have HC0 := Lib.hid hco
        obtain ⟨q, hq⟩ : ∃ q, i + 6 = q := ⟨_, rfl⟩
        have hqi : (i : Int) + 6 = (q : Int) := by omega
        have wq : IntKind.i64.wrap (q : Int) = (q : Int) := by simp only [IntKind.wrap, IntKind.signed, IntKind.bits]; simp; omega
        have hf := HF.out
        have hq1e : i + 6 + 1 = q + 1 := by omega
        rw [hq1e, hq] at hf
        have HF2 := Lib.hid hf
        clear hco hf HF c2 c3 hcase2 hq1e hq
        go_enter Tryz.func88, Tryz.ntmps88
        go_wp2_with fail
        refine (hu1 _).mono ?_
        rintro e w1 ⟨rfl, rfl⟩
        go_wp2_with fail
        go_loopw [7] (fun j wr => ∃ k : Nat, k ≤ 2 ∧ j = .int .i64 k ∧ (1 ≤ k → q < l.length ∧ nb l q = 92) ∧ (2 ≤ k → q + 1 < l.length ∧ nb l (q + 1) = 117) ∧ wr.heap[w.heap.size]? = some (.cells #[.string (txt []), .int .i64 0, .int .i64 0] 77 (0, 0)) ∧ Below w.heap.size w wr) (fun j _ => 2 - (intOf j).toNat)
        case atStart => exact ⟨0, by omega, rfl, by omega, by omega, hA, bA⟩
        case round =>
          clear hA bA
          obtain ⟨k, hk, rfl, hk1, hk2, hA, bA⟩ := hrel
          obtain ⟨q0, q1, q2⟩ := three hA
          have qf := free_of hA
          rcases (show k = 0 ∨ k = 1 ∨ k = 2 by omega) with rfl | rfl | rfl
          · by_cases hlt : q < l.length
            · have hlt' : decide (l.length ≤ q) = false := by simp; omega
              have hix := idx hlt
              have hA2 : (wr.alloc (.cells #[.int .u8 92, .int .u8 117] 5)).drew.heap[w.heap.size]? = some (.cells #[.string (txt []), .int .i64 0, .int .i64 0] 77 (0, 0)) := new_of hA _
              have b2 : Below w.heap.size w (wr.alloc (.cells #[.int .u8 92, .int .u8 117] 5)).drew := below_drewN (bA.alloc bA.size _) 1
              by_cases h92 : nb l q = 92
              · rw [h92] at hix
                have HH := Lib.hid (show q < l.length ∧ nb l q = 92 from ⟨hlt, h92⟩)
                clear hk1 hk2 h92
                go_upto_region 13 with fail
                go_region
                all_goals
                  go_wp2_with fail
                  go_roundw
                  case rel => exact ⟨1, by omega, by first | rfl | go_num, fun _ => HH.out, by omega, hA2, b2⟩
                  case measure => simp [intOf]
              · have hfo : fo = 3 := by rw [HF2.out, if_neg (by omega), if_pos h92]
                have hco := HC0.out
                rw [hfo, if_pos (by decide)] at hco
                have HC := Lib.hid hco
                have h92' : ((nb l q : Int) != 92) = true := by simp; omega
                generalize nb l q = x at *
                clear hk1 hk2 hco HC0 HF2 hA bA q0 q1 q2 qf
                go_upto_region 13 with fail
                go_region
                all_goals
                  generalize (wr.alloc (.cells #[.int .u8 92, .int .u8 117] 5)).drew = wz at *
                  obtain ⟨q0, q1, q2⟩ := three hA2
                  have qf := free_of hA2
                  go_wp2_with fail
                  refine bodyPost_ret (v := partV (err 3)) (by simp [results, Tryz.results88, go_sem, partV, err, *]) rfl ⟨by rw [HC.out], below_set3 b2 (Nat.le_refl _) _ _ _⟩
            · have hlt' : decide (l.length ≤ q) = true := by simp; omega
              have hfo : fo = 2 := by rw [HF2.out, if_pos (by omega)]
              have hco := HC0.out
              rw [hfo, if_pos (by decide)] at hco
              have HC := Lib.hid hco
              clear hco HC0 HF2 hk1 hk2
              go_wp2_with fail
              refine bodyPost_ret (v := partV (err 2)) (by simp [results, Tryz.results88, go_sem, partV, err, *]) rfl ⟨by rw [HC.out], below_set3 bA (Nat.le_refl _) _ _ _⟩
          · have H1 := Lib.hid (hk1 (by omega))
            obtain ⟨qz, hqz⟩ : ∃ qz, q + 1 = qz := ⟨_, rfl⟩
            have hqi1 : (q : Int) + 1 = (qz : Int) := by omega
            have wq1 : IntKind.i64.wrap (qz : Int) = (qz : Int) := by simp only [IntKind.wrap, IntKind.signed, IntKind.bits]; simp; omega
            rw [hqz] at HF2 ⊢
            by_cases hlt : qz < l.length
            · have hlt' : decide (l.length ≤ qz) = false := by simp; omega
              have hix := idx hlt
              have hA2 : (wr.alloc (.cells #[.int .u8 92, .int .u8 117] 5)).drew.heap[w.heap.size]? = some (.cells #[.string (txt []), .int .i64 0, .int .i64 0] 77 (0, 0)) := new_of hA _
              have b2 : Below w.heap.size w (wr.alloc (.cells #[.int .u8 92, .int .u8 117] 5)).drew := below_drewN (bA.alloc bA.size _) 1
              by_cases h92 : nb l qz = 117
              · rw [h92] at hix
                have HH := Lib.hid (show qz < l.length ∧ nb l qz = 117 from ⟨hlt, h92⟩)
                clear hk1 hk2 h92
                go_upto_region 13 with fail
                go_region
                all_goals
                  go_wp2_with fail
                  go_roundw
                  case rel => exact ⟨2, by omega, by first | rfl | go_num, fun _ => H1.out, fun _ => HH.out, hA2, b2⟩
                  case measure => simp [intOf]
              · have hfo : fo = 3 := by rw [HF2.out, if_neg (by have := H1.out; omega), if_neg (by have := H1.out; omega), if_neg (by omega), if_pos h92]
                have hco := HC0.out
                rw [hfo, if_pos (by decide)] at hco
                have HC := Lib.hid hco
                have h92' : ((nb l qz : Int) != 117) = true := by simp; omega
                generalize nb l qz = x at *
                clear hk1 hk2 hco HC0 HF2 hA bA q0 q1 q2 qf
                go_upto_region 13 with fail
                go_region
                all_goals
                  generalize (wr.alloc (.cells #[.int .u8 92, .int .u8 117] 5)).drew = wz at *
                  obtain ⟨q0, q1, q2⟩ := three hA2
                  have qf := free_of hA2
                  go_wp2_with fail
                  refine bodyPost_ret (v := partV (err 3)) (by simp [results, Tryz.results88, go_sem, partV, err, *]) rfl ⟨by rw [HC.out], below_set3 b2 (Nat.le_refl _) _ _ _⟩
            · have hlt' : decide (l.length ≤ qz) = true := by simp; omega
              have hfo : fo = 2 := by rw [HF2.out, if_neg (by have := H1.out; omega), if_neg (by have := H1.out; omega), if_pos (by omega)]
              have hco := HC0.out
              rw [hfo, if_pos (by decide)] at hco
              have HC := Lib.hid hco
              clear hco HC0 HF2 hk1 hk2
              go_wp2_with fail
              refine bodyPost_ret (v := partV (err 2)) (by simp [results, Tryz.results88, go_sem, partV, err, *]) rfl ⟨by rw [HC.out], below_set3 bA (Nat.le_refl _) _ _ _⟩
          · obtain ⟨h1, h2⟩ := hk1 (by omega)
            obtain ⟨h3, h4⟩ := hk2 (by omega)
            have hfo : fo = 0 := by rw [HF2.out, if_neg (by omega), if_neg (by omega), if_neg (by omega), if_neg (by omega)]
            have hco := HC0.out
            rw [hfo, if_neg (by simp)] at hco
            clear HC0 HF2 hk1 hk2 h1 h2 h3 h4 hfo
            by_cases c5 : e2 = 0
            · subst c5
              rw [if_neg (by simp)] at hco
              by_cases c6 : m < 56320 ∨ 57343 < m
              · rw [if_pos c6] at hco
                have HC := Lib.hid hco
                have hcase : decide ((m : Int) < 56320) = true ∨ (decide ((m : Int) < 56320) = false ∧ decide ((57343 : Int) < (m : Int)) = true) := by simp; omega
                clear hco c6
                rcases hcase with d5 | ⟨d5, d6⟩
                all_goals
                  go_wp2_with fail
                  refine (hu2 _).mono ?_
                  rintro e w3 ⟨rfl, rfl⟩
                  go_wp2_with fail
                  refine bodyPost_ret (v := partV (err 3)) (by simp [results, Tryz.results88, go_sem, partV, err, *]) rfl ⟨by rw [HC.out], below_set3 bA (Nat.le_refl _) _ _ _⟩
              · rw [if_neg c6] at hco
                have d5 : decide ((m : Int) < 56320) = false := by simp; omega
                have d6 : decide ((57343 : Int) < (m : Int)) = false := by simp; omega
                obtain ⟨cc, hcc⟩ : ∃ cc, 65536 + (n - 55296) * 1024 + (m - 56320) = cc := ⟨_, rfl⟩
                rw [hcc] at hco
                have hE : 65536 + ((n : Int) - 55296) * 1024 + (m : Int) - 56320 = (cc : Int) := by omega
                have hsc : Scalar cc := by unfold Scalar; omega
                have hpu := fun wx => rput_any (w := wx) (c := 65536 + ((n : Int) - 55296) * 1024 + (m : Int) - 56320) (by omega) (by omega)
                simp only [hE, putL_of hsc] at hpu
                have hpu' : ∀ wx, Calls Tryz.prog 121 #[.int .i64 (cc : Int)] wx fun e w' => e = .returned (.string (txt (enc cc))) ∧ Below wx.heap.size wx w' := hpu
                have wcc : IntKind.i64.wrap (cc : Int) = (cc : Int) := by simp only [IntKind.wrap, IntKind.signed, IntKind.bits]; simp; omega
                have HC := Lib.hid hco
                clear hco hpu c6 hcc hsc
                generalize enc cc = en at *
                go_wp2_with fail
                refine (hu2 _).mono ?_
                rintro e w3 ⟨rfl, rfl⟩
                go_wp2_with fail
                refine (hpu' _).mono ?_
                rintro e w4 ⟨rfl, k4⟩
                have hA4 := (k4.block _ (lt_of_heap hA)).trans hA
                have b4 := bA.trans (k4.mono bA.size)
                clear q0 q1 q2 qf hA bA k4 hpu' hu1 hu2
                obtain ⟨q0, q1, q2⟩ := three hA4
                have qf := free_of hA4
                go_wp2_with fail
                refine bodyPost_ret (v := partV ⟨en, 12, 0⟩) (by simp [results, Tryz.results88, go_sem, partV, *]) rfl ⟨by rw [HC.out], below_set3 b4 (Nat.le_refl _) _ _ _⟩
            · rw [if_pos c5] at hco
              have HC := Lib.hid hco
              have c5' : ((e2 : Int) != 0) = true := by simp; omega
              clear hco
              go_wp2_with fail
              refine (hu2 _).mono ?_
              rintro e w3 ⟨rfl, rfl⟩
              go_wp2_with fail
              refine bodyPost_ret (v := partV (err e2)) (by simp [results, Tryz.results88, go_sem, partV, err, *]) rfl ⟨by rw [HC.out], below_set3 bA (Nat.le_refl _) _ _ _⟩
  · rw [if_pos c1] at hco
    have HC := Lib.hid hco
    have c1' : ((e1 : Int) != 0) = true := by simp; omega
    clear hco hA bA
    go_enter Tryz.func88, Tryz.ntmps88
    go_wp2_with fail
    refine (hu1 _).mono ?_
    rintro e w1 ⟨rfl, rfl⟩
    go_wp2_with fail
    refine bodyPost_ret (v := partV (err e1)) (by simp [results, Tryz.results88, go_sem, partV, err, *]) rfl ⟨by rw [HC.out], (Below.refl _ w).alloc (Nat.le_refl _) _⟩
end Go.Proofs.YtlfbnfphocpgeaaGreatDoor.Quo
namespace Go.Proofs.YtlfbnfphocpgeaaGreatDoor.Quo
open Go.RowKit Kit Txt Utf
theorem ne_u8 {c n : UInt8} (h : c ≠ n) : ((c.toNat : Int) == (n.toNat : Int)) = false := by
  simp
  intro e
  exact h (UInt8.toNat_inj.1 (by omega))
set_option maxRecDepth 100000 in
set_option maxHeartbeats 8000000 in
theorem part_any {w : World} {l : List UInt8} {i : Nat} (hl : l.length < 1000000) (hi : i < 1000000) :
    Calls Tryz.prog 59 #[.string (txt l), .int .i64 i] w fun e w' => e = .returned (partV (part (l.drop i))) ∧ Below w.heap.size w w' := by
  have hs := txt_size l
  have ht0 : (⟨#[]⟩ : ByteArray) = txt [] := rfl
  have hA := World.alloc_heap_new w (.cells #[.string (txt []), .int .i64 0, .int .i64 0] 77)
  have bA : Below w.heap.size w (w.alloc (.cells #[.string (txt []), .int .i64 0, .int .i64 0] 77)) := (Below.refl _ w).alloc (Nat.le_refl _) _
  by_cases hlt : i < l.length
  · have hlt' : decide (l.length ≤ i) = false := by simp; omega
    have hix := idx hlt
    rw [nb_get hlt] at hix
    have hd : l.drop i = l[i] :: l.drop (i + 1) := List.drop_eq_getElem_cons hlt
    have hone := fun wx => rone_any (w := wx) (s := txt l) (k := i) (by rw [txt_size]; omega) (by rw [txt_size]; exact hlt)
    simp only [txt_list] at hone
    have hok : (one (l.drop i)).2 ≠ 0 → (one (l.drop i)).2 ≤ l.length - i := fun h => by
      have := (one_bytes h).2.2
      rwa [List.length_drop] at this
    have hpt : part (l.drop i) = if (l[i]).toNat < 32 then err 3 else if l[i] ≠ 92 then (if (one (l.drop i)).2 = 0 then err 7 else ⟨(l.drop i).take (one (l.drop i)).2, (one (l.drop i)).2, 0⟩)
        else match l.drop (i + 1) with
          | [] => err 2
          | d :: r' => match sign d with
            | some x => ⟨[x], 2, 0⟩
            | none => if d = 117 then coded r' else err 3 := by
      rw [hd]
      rfl
    have hcl : (l[i]).toNat < 256 := (l[i]).toNat_lt
    by_cases c1 : (l[i]).toNat < 32
    · rw [if_pos c1] at hpt
      have HC := Lib.hid hpt
      have c1' : ((l[i]).toNat : Int) < 32 := by omega
      generalize (l[i]).toNat = x at *
      clear hpt hd hone hok hA bA
      go_enter Tryz.func59, Tryz.ntmps59
      go_wp2_with fail
      refine bodyPost_ret (v := partV (err 3)) (by simp [results, Tryz.results59, go_sem, partV, err, *]) rfl ⟨by rw [HC.out], (Below.refl _ w).alloc (Nat.le_refl _) _⟩
    · rw [if_neg c1] at hpt
      have c1' : decide (((l[i]).toNat : Int) < 32) = false := by simp; omega
      by_cases c2 : l[i] = 92
      · rw [if_neg (by simp [c2])] at hpt
        have c2' : (((l[i]).toNat : Int) != 92) = false := by rw [c2]; rfl
        have hi1 : (i : Int) + 1 = ((i + 1 : Nat) : Int) := by omega
        by_cases hlt2 : i + 1 < l.length
        · have hd2 : l.drop (i + 1) = l[i + 1] :: l.drop (i + 2) := List.drop_eq_getElem_cons hlt2
          rw [hd2] at hpt
          dsimp only at hpt
          have hix2 := idx hlt2
          rw [nb_get hlt2] at hix2
          have hco := fun wx => coded_any (w := wx) (l := l) (i := i) hl hi
          have hsl := fun wx => slM (l := l) (y := ((i + 1 : Nat) : Int)) (z := (i : Int) + 2) (i := i + 1) (j := i + 2) rfl (by omega) (by omega) (by omega) wx
          have htk : (l.drop (i + 1)).take (i + 2 - (i + 1)) = [l[i + 1]] := by
            rw [hd2, show i + 2 - (i + 1) = 1 by omega]
            rfl
          simp only [htk] at hsl
          obtain ⟨q, hq⟩ : ∃ q, i + 1 = q := ⟨_, rfl⟩
          have hqlt : q < l.length := by omega
          have hge : l[i + 1] = l[q] := by simp only [hq]
          simp only [hge] at hix2 hpt hsl
          simp only [hq] at hix2 hsl hi1
          have wq : IntKind.i64.wrap (q : Int) = (q : Int) := by simp only [IntKind.wrap, IntKind.signed, IntKind.bits]; simp; omega
          have hq2' : decide (l.length ≤ q) = false := by simp; omega
          generalize l[q] = dd at *
          generalize l[i] = c at *
          subst c2
          clear hd hd2 hone hok htk hge hcl
          have ht1 : (⟨#[8]⟩ : ByteArray) = txt [8] := rfl
          have ht2 : (⟨#[12]⟩ : ByteArray) = txt [12] := rfl
          have ht3 : (⟨#[10]⟩ : ByteArray) = txt [10] := rfl
          have ht4 : (⟨#[13]⟩ : ByteArray) = txt [13] := rfl
          have ht5 : (⟨#[9]⟩ : ByteArray) = txt [9] := rfl
          by_cases s0 : dd = 34
          · subst s0
            have hpt2 : part (l.drop i) = ⟨[34], 2, 0⟩ := hpt
            have HC := Lib.hid hpt2
            clear hpt hpt2 hA bA hco
            go_enter Tryz.func59, Tryz.ntmps59
            go_wp2_with fail
            refine bodyPost_ret (v := partV ⟨[34], 2, 0⟩) (by simp [results, Tryz.results59, go_sem, partV, *]) rfl ⟨by rw [HC.out], (Below.refl _ w).alloc (Nat.le_refl _) _⟩
          by_cases s1 : dd = 92
          · subst s1
            have hpt2 : part (l.drop i) = ⟨[92], 2, 0⟩ := hpt
            have HC := Lib.hid hpt2
            clear hpt hpt2 hA bA hco
            go_enter Tryz.func59, Tryz.ntmps59
            go_wp2_with fail
            refine bodyPost_ret (v := partV ⟨[92], 2, 0⟩) (by simp [results, Tryz.results59, go_sem, partV, *]) rfl ⟨by rw [HC.out], (Below.refl _ w).alloc (Nat.le_refl _) _⟩
          by_cases s2 : dd = 47
          · subst s2
            have hpt2 : part (l.drop i) = ⟨[47], 2, 0⟩ := hpt
            have HC := Lib.hid hpt2
            clear hpt hpt2 hA bA hco
            go_enter Tryz.func59, Tryz.ntmps59
            go_wp2_with fail
            refine bodyPost_ret (v := partV ⟨[47], 2, 0⟩) (by simp [results, Tryz.results59, go_sem, partV, *]) rfl ⟨by rw [HC.out], (Below.refl _ w).alloc (Nat.le_refl _) _⟩
          by_cases s3 : dd = 98
          · subst s3
            have hpt2 : part (l.drop i) = ⟨[8], 2, 0⟩ := hpt
            have HC := Lib.hid hpt2
            clear hpt hpt2 hA bA hco
            go_enter Tryz.func59, Tryz.ntmps59
            go_wp2_with fail
            refine bodyPost_ret (v := partV ⟨[8], 2, 0⟩) (by simp [results, Tryz.results59, go_sem, partV, *]) rfl ⟨by rw [HC.out], (Below.refl _ w).alloc (Nat.le_refl _) _⟩
          by_cases s4 : dd = 102
          · subst s4
            have hpt2 : part (l.drop i) = ⟨[12], 2, 0⟩ := hpt
            have HC := Lib.hid hpt2
            clear hpt hpt2 hA bA hco
            go_enter Tryz.func59, Tryz.ntmps59
            go_wp2_with fail
            refine bodyPost_ret (v := partV ⟨[12], 2, 0⟩) (by simp [results, Tryz.results59, go_sem, partV, *]) rfl ⟨by rw [HC.out], (Below.refl _ w).alloc (Nat.le_refl _) _⟩
          by_cases s5 : dd = 110
          · subst s5
            have hpt2 : part (l.drop i) = ⟨[10], 2, 0⟩ := hpt
            have HC := Lib.hid hpt2
            clear hpt hpt2 hA bA hco
            go_enter Tryz.func59, Tryz.ntmps59
            go_wp2_with fail
            refine bodyPost_ret (v := partV ⟨[10], 2, 0⟩) (by simp [results, Tryz.results59, go_sem, partV, *]) rfl ⟨by rw [HC.out], (Below.refl _ w).alloc (Nat.le_refl _) _⟩
          by_cases s6 : dd = 114
          · subst s6
            have hpt2 : part (l.drop i) = ⟨[13], 2, 0⟩ := hpt
            have HC := Lib.hid hpt2
            clear hpt hpt2 hA bA hco
            go_enter Tryz.func59, Tryz.ntmps59
            go_wp2_with fail
            refine bodyPost_ret (v := partV ⟨[13], 2, 0⟩) (by simp [results, Tryz.results59, go_sem, partV, *]) rfl ⟨by rw [HC.out], (Below.refl _ w).alloc (Nat.le_refl _) _⟩
          by_cases s7 : dd = 116
          · subst s7
            have hpt2 : part (l.drop i) = ⟨[9], 2, 0⟩ := hpt
            have HC := Lib.hid hpt2
            clear hpt hpt2 hA bA hco
            go_enter Tryz.func59, Tryz.ntmps59
            go_wp2_with fail
            refine bodyPost_ret (v := partV ⟨[9], 2, 0⟩) (by simp [results, Tryz.results59, go_sem, partV, *]) rfl ⟨by rw [HC.out], (Below.refl _ w).alloc (Nat.le_refl _) _⟩
          have n0 : ((dd.toNat : Int) == 34) = false := ne_u8 s0
          have n1 : ((dd.toNat : Int) == 92) = false := ne_u8 s1
          have n2 : ((dd.toNat : Int) == 47) = false := ne_u8 s2
          have n3 : ((dd.toNat : Int) == 98) = false := ne_u8 s3
          have n4 : ((dd.toNat : Int) == 102) = false := ne_u8 s4
          have n5 : ((dd.toNat : Int) == 110) = false := ne_u8 s5
          have n6 : ((dd.toNat : Int) == 114) = false := ne_u8 s6
          have n7 : ((dd.toNat : Int) == 116) = false := ne_u8 s7
          have hsg : sign dd = none := by
            unfold sign
            rw [if_neg (by rintro (h | h | h) <;> contradiction), if_neg s3, if_neg s4, if_neg s5, if_neg s6, if_neg s7]
          rw [hsg] at hpt
          dsimp only at hpt
          by_cases s8 : dd = 117
          · subst s8
            have hpt2 : part (l.drop i) = coded (l.drop (i + 2)) := hpt
            generalize coded (l.drop (i + 2)) = pc at *
            have HC := Lib.hid hpt2
            clear hpt hpt2 hsl
            simp only [partV] at hco
            go_enter Tryz.func59, Tryz.ntmps59
            go_wp2_with fail
            refine (hco _).mono ?_
            rintro e w2 ⟨rfl, k2⟩
            have hA2 := (k2.block _ (lt_of_heap hA)).trans hA
            have b2 := bA.trans (k2.mono bA.size)
            obtain ⟨q0, q1, q2⟩ := three hA2
            have qf := free_of hA2
            clear hA hA2 k2 bA hco
            go_wp2_with fail
            refine bodyPost_ret (v := partV pc) (by simp [results, Tryz.results59, go_sem, partV, *]) rfl ⟨by rw [HC.out], below_set3 b2 (Nat.le_refl _) _ _ _⟩
          · have n8 : ((dd.toNat : Int) == 117) = false := ne_u8 s8
            rw [if_neg s8] at hpt
            have HC := Lib.hid hpt
            generalize dd.toNat = dv at *
            clear hpt hA bA hco hsl
            go_enter Tryz.func59, Tryz.ntmps59
            go_wp2_with fail
            refine bodyPost_ret (v := partV (err 3)) (by simp [results, Tryz.results59, go_sem, partV, err, *]) rfl ⟨by rw [HC.out], (Below.refl _ w).alloc (Nat.le_refl _) _⟩
        · have hd2 : l.drop (i + 1) = [] := List.drop_eq_nil_of_le (by omega)
          rw [hd2] at hpt
          dsimp only at hpt
          obtain ⟨q, hq⟩ : ∃ q, i + 1 = q := ⟨_, rfl⟩
          rw [hq] at hi1
          have wq : IntKind.i64.wrap (q : Int) = (q : Int) := by simp only [IntKind.wrap, IntKind.signed, IntKind.bits]; simp; omega
          have hq2' : decide (l.length ≤ q) = true := by simp; omega
          have HC := Lib.hid hpt
          generalize (l[i]).toNat = x at *
          clear hpt hd hone hok hA bA hd2
          go_enter Tryz.func59, Tryz.ntmps59
          go_wp2_with fail
          refine bodyPost_ret (v := partV (err 2)) (by simp [results, Tryz.results59, go_sem, partV, err, *]) rfl ⟨by rw [HC.out], (Below.refl _ w).alloc (Nat.le_refl _) _⟩
      · rw [if_pos c2] at hpt
        have c2' : (((l[i]).toNat : Int) != 92) = true := by
          have := ne_u8 c2
          simpa [bne] using this
        obtain ⟨⟨o1, n⟩, ho⟩ : ∃ o, one (l.drop i) = o := ⟨_, rfl⟩
        rw [ho] at hpt hok
        simp only [ho] at hone
        dsimp only at hpt hok
        by_cases c3 : n = 0
        · subst c3
          rw [if_pos rfl] at hpt
          have HC := Lib.hid hpt
          generalize (l[i]).toNat = x at *
          clear hpt hd hok ho
          go_enter Tryz.func59, Tryz.ntmps59
          go_wp2_with fail
          refine (hone _).mono ?_
          rintro e w2 ⟨rfl, k2⟩
          have hA2 := (k2.block _ (lt_of_heap hA)).trans hA
          have b2 := bA.trans (k2.mono bA.size)
          obtain ⟨q0, q1, q2⟩ := three hA2
          have qf := free_of hA2
          clear hA hA2 k2 bA hone
          go_wp2_with fail
          refine bodyPost_ret (v := partV (err 7)) (by simp [results, Tryz.results59, go_sem, partV, err, *]) rfl ⟨by rw [HC.out], below_set3 b2 (Nat.le_refl _) _ _ _⟩
        · rw [if_neg c3] at hpt
          have hn := hok c3
          have c3' : ((n : Int) == 0) = false := by simp [c3]
          have hsl := fun wx => slM (l := l) (y := (i : Int)) (z := (i : Int) + (n : Int)) (i := i) (j := i + n) rfl (by omega) (by omega) (by omega) wx
          simp only [Nat.add_sub_cancel_left] at hsl
          generalize (l.drop i).take n = T at *
          have HC := Lib.hid hpt
          generalize (l[i]).toNat = x at *
          clear hpt hd hok ho
          go_enter Tryz.func59, Tryz.ntmps59
          go_wp2_with fail
          refine (hone _).mono ?_
          rintro e w2 ⟨rfl, k2⟩
          have hA2 := (k2.block _ (lt_of_heap hA)).trans hA
          have b2 := bA.trans (k2.mono bA.size)
          obtain ⟨q0, q1, q2⟩ := three hA2
          have qf := free_of hA2
          clear hA hA2 k2 bA hone
          go_wp2_with fail
          refine bodyPost_ret (v := partV ⟨T, n, 0⟩) (by simp [results, Tryz.results59, go_sem, partV, *]) rfl ⟨by rw [HC.out], below_set3 b2 (Nat.le_refl _) _ _ _⟩
  · have hlt' : decide (l.length ≤ i) = true := by simp; omega
    have hd : l.drop i = [] := List.drop_eq_nil_of_le (by omega)
    have hpt : part (l.drop i) = err 2 := by rw [hd]; rfl
    have HC := Lib.hid hpt
    clear hd hpt hA bA
    go_enter Tryz.func59, Tryz.ntmps59
    go_wp2_with fail
    refine bodyPost_ret (v := partV (err 2)) (by simp [results, Tryz.results59, go_sem, partV, err, *]) rfl ⟨by rw [HC.out], (Below.refl _ w).alloc (Nat.le_refl _) _⟩
end Go.Proofs.YtlfbnfphocpgeaaGreatDoor.Quo
namespace Go.Proofs.YtlfbnfphocpgeaaGreatDoor.Quo
open Go.RowKit Kit Txt Utf
theorem scan_nil' : scan [] = err 2 := rfl
theorem scan_no {l : List UInt8} (h0 : 0 < l.length) (h : nb l 0 ≠ 34) : scan l = err 3 := by
  obtain ⟨c, r, rfl⟩ := List.exists_cons_of_ne_nil (List.length_pos_iff.1 h0)
  unfold scan
  dsimp only
  rw [if_pos (by rintro rfl; exact h rfl)]
theorem scan_yes {l : List UInt8} (h : nb l 0 = 34) : scan l = scanF [] 1 (l.drop 1) := by
  obtain ⟨c, r, rfl⟩ := List.exists_cons_of_ne_nil (List.length_pos_iff.1 (nb_ne h (by omega)))
  have hc : c = 34 := UInt8.toNat_inj.1 h
  unfold scan
  dsimp only
  rw [if_neg (by simp [hc])]
  rfl
theorem head_nb (l : List UInt8) (q : Nat) : (l.drop q).head? = some 34 ↔ nb l q = 34 := by
  by_cases h : q < l.length
  · rw [List.drop_eq_getElem_cons h, nb_get h]
    simp only [List.head?_cons, Option.some.injEq]
    exact ⟨fun e => by rw [e]; rfl, fun e => UInt8.toNat_inj.1 e⟩
  · rw [List.drop_eq_nil_of_le (by omega), nb_past (by omega)]
    simp
set_option maxRecDepth 100000 in
set_option maxHeartbeats 8000000 in
theorem rscan_any {w : World} {l : List UInt8} (hl : l.length < 100000) :
    Calls Tryz.prog 38 #[.string (txt l)] w fun e w' => e = .returned (partV (scan l)) ∧ Below w.heap.size w w' := by
  have hs := txt_size l
  have ht0 : (⟨#[]⟩ : ByteArray) = txt [] := rfl
  have hA := World.alloc_heap_new w (.cells #[.string (txt []), .int .i64 0, .int .i64 0] 77)
  have bA : Below w.heap.size w (w.alloc (.cells #[.string (txt []), .int .i64 0, .int .i64 0] 77)) := (Below.refl _ w).alloc (Nat.le_refl _) _
  by_cases h0 : l = []
  · subst h0
    have HC := Lib.hid scan_nil'
    simp only [List.length_nil] at hs
    clear hA bA
    go_enter Tryz.func38, Tryz.ntmps38
    go_wp2_with fail
    refine bodyPost_ret (v := partV (err 2)) (by simp [results, Tryz.results38, go_sem, partV, err, *]) rfl ⟨by rw [HC.out], (Below.refl _ w).alloc (Nat.le_refl _) _⟩
  · have hn := List.length_pos_iff.2 h0
    have hn0 : ((l.length : Int) == 0) = false := by simp [h0]
    have hix := idx hn
    rw [show ((0 : Nat) : Int) = 0 from rfl] at hix
    by_cases h34 : nb l 0 = 34
    · have hsc := scan_yes h34
      have h34' : ((nb l 0 : Int) != 34) = false := by rw [h34]; rfl
      generalize nb l 0 = x at *
      have HS := Lib.hid hsc
      clear hsc h34
      go_enter Tryz.func38, Tryz.ntmps38
      go_wp2_with fail
      go_loopw [3, 4] (fun s a wr => ∃ (S : List UInt8) (q : Nat), s = .string (txt S) ∧ a = .int .i64 q ∧ q ≤ l.length ∧ S.length ≤ 4 * q ∧ scan l = scanF S q (l.drop q) ∧ wr.heap[w.heap.size]? = some (.cells #[.string (txt []), .int .i64 0, .int .i64 0] 77 (0, 0)) ∧ Below w.heap.size w wr) (fun _ a _ => l.length - (intOf a).toNat)
      case atStart => exact ⟨[], 1, by first | rfl | exact ht0 ▸ rfl, rfl, by omega, by simp, HS.out, hA, bA⟩
      case round =>
        clear hA bA HS hix
        obtain ⟨S, q, rfl, rfl, hq, hSl, hsc, hA, bA⟩ := hrel
        have hh := head_nb l q
        have hwq : IntKind.i64.wrap ((q : Int) + 1) = (q : Int) + 1 := by simp only [IntKind.wrap, IntKind.signed, IntKind.bits]; simp; omega
        by_cases he : nb l q = 34
        · have hlt := nb_ne he (by omega)
          have hlt' : (q : Int) < (l.length : Int) := by omega
          have hix := idx hlt
          rw [he] at hix
          rw [scanF_end (hh.2 he)] at hsc
          have HC := Lib.hid hsc
          obtain ⟨q0, q1, q2⟩ := three hA
          have qf := free_of hA
          clear hA hh he hsc
          go_wp2_with fail
          refine bodyPost_ret (v := partV ⟨S, q + 1, 0⟩) (by simp [results, Tryz.results38, go_sem, partV, *]) rfl ⟨by rw [HC.out], below_set3 bA (Nat.le_refl _) _ _ _⟩
        · have hne : (l.drop q).head? ≠ some 34 := fun e => he (hh.1 e)
          have hp := fun wx => part_any (w := wx) (l := l) (i := q) (by omega) (by omega)
          have hok := fun e => part_ok (l := l.drop q) e
          have hon := fun e => scanF_on (s := S) (at' := q) hne e
          have her := fun e => scanF_err (s := S) (at' := q) hne e
          rw [List.length_drop] at hok
          simp only [List.drop_drop] at hon
          generalize part (l.drop q) = p at *
          have hcase : (decide (q < l.length) = true ∧ (q : Int) < (l.length : Int) ∧ (∀ wx : World, (Instr.index 9 (.string (txt l)) (.int .i64 (q : Int))).run Tryz.prog wx = .ok (.int .u8 (nb l q : Int)) wx)) ∨ decide (q < l.length) = false := by
            by_cases h : q < l.length
            · left
              exact ⟨decide_eq_true h, by omega, fun wx => idx h wx⟩
            · right
              exact decide_eq_false h
          have he' : ((nb l q : Int) == 34) = false := by simp; omega
          generalize nb l q = y at *
          by_cases c0 : p.e = 0
          · obtain ⟨cc, hsc1, hps, hsz1, hsz2⟩ := hok c0
            have hel := (enc_len (c := cc)).2
            rw [← hps] at hel
            rw [hon c0] at hsc
            obtain ⟨ps, pz, pe⟩ := p
            dsimp only at c0 hps hsz1 hsz2 hel hsc
            subst c0
            obtain ⟨f1, g1⟩ := add_lit (a := S) (b := ps) (c := S ++ ps) rfl rfl (by omega) (by omega)
            have wz : IntKind.i64.wrap ((q : Int) + (pz : Int)) = (q : Int) + (pz : Int) := by simp only [IntKind.wrap, IntKind.signed, IntKind.bits]; simp; omega
            have HC := Lib.hid hsc
            simp only [partV] at hp
            clear hok hon her hsc hh hne he hps hsc1
            rcases hcase with ⟨d1, d1', hix⟩ | d1
            all_goals
              go_wp2_with fail
              refine (hp _).mono ?_
              rintro e w2 ⟨rfl, k2⟩
              have hA2 := new_of ((k2.block _ (lt_of_heap hA)).trans hA) (.cells #[.string (txt ps), .int .i64 pz, .int .i64 0] 77)
              have b2 := (bA.trans (k2.mono bA.size)).alloc (bA.trans (k2.mono bA.size)).size (.cells #[.string (txt ps), .int .i64 pz, .int .i64 0] 77)
              clear k2
              go_wp2_with fail
              go_roundw
              case rel => exact ⟨S ++ ps, q + pz, rfl, by go_num, by omega, by rw [List.length_append]; omega, HC.out, hA2, b2⟩
              case measure => simp [intOf]; omega
          · rw [her c0] at hsc
            obtain ⟨ps, pz, pe⟩ := p
            dsimp only at c0 hsc
            have c0' : ((pe : Int) != 0) = true := by simp; omega
            have HC := Lib.hid hsc
            simp only [partV] at hp
            clear hok hon her hsc hh hne he
            rcases hcase with ⟨d1, d1', hix⟩ | d1
            all_goals
              go_wp2_with fail
              refine (hp _).mono ?_
              rintro e w2 ⟨rfl, k2⟩
              have hA2 := (k2.block _ (lt_of_heap hA)).trans hA
              have b2 := bA.trans (k2.mono bA.size)
              obtain ⟨q0, q1, q2⟩ := three hA2
              have qf := free_of hA2
              have hlt2 := lt_of_heap hA2
              clear k2
              go_wp2_with fail
              refine bodyPost_ret (v := partV (err pe)) (by simp [results, Tryz.results38, go_sem, partV, err, *]) rfl ⟨by rw [HC.out], (below_set3 b2 (Nat.le_refl _) _ _ _).alloc (below_set3 b2 (Nat.le_refl _) _ _ _).size _⟩
    · have hsc := scan_no hn h34
      have h34' : ((nb l 0 : Int) != 34) = true := by simp; omega
      generalize nb l 0 = x at *
      have HC := Lib.hid hsc
      clear hsc h34 hA bA
      go_enter Tryz.func38, Tryz.ntmps38
      go_wp2_with fail
      refine bodyPost_ret (v := partV (err 3)) (by simp [results, Tryz.results38, go_sem, partV, err, *]) rfl ⟨by rw [HC.out], (Below.refl _ w).alloc (Nat.le_refl _) _⟩
end Go.Proofs.YtlfbnfphocpgeaaGreatDoor.Quo
namespace Go.Proofs.YtlfbnfphocpgeaaGreatDoor.Jdec
open Go.RowKit Kit Txt
open Utf (nb)
/-- What is told of a key and its colon: the key, the place behind, no error; or an error. -/
def TellF (n : Nat) (g : Got (List UInt8)) (e : Ending) : Prop :=
  ∃ (t : ByteArray) (a p k : Int), e = .returned (.agg #[.int .i64 0, .bool false, .bool false, .string ⟨#[]⟩, .int .i64 0, .string t, .slice none 0 0, .slice none 0 0, .int .i64 a, .int .i64 p, .int .i64 k]) ∧
    ((∃ x r, g = .ok x r ∧ t = txt x ∧ a = ((n - r.length : Nat) : Int) ∧ k = 0) ∨ ((∃ r j, g = .no r j) ∧ k ≠ 0))
theorem TellF.bad {n j : Nat} {g : Got (List UInt8)} {r : List UInt8} (h : g = .no r j) {p k : Int} (hk : k ≠ 0) : TellF n g (.returned (badV p k)) := ⟨_, _, _, _, rfl, .inr ⟨⟨r, j, h⟩, hk⟩⟩
/-- A row of texts that is read. -/
def KeysAt (w : World) (u : Value) (keys : List (List UInt8)) : Prop := ∃ (a : Option Addr) (c : Nat), u = .slice a keys.length c ∧ (keys = [] ∨ ∃ g off, a = some ⟨g, off, none⟩ ∧ g < w.heap.size ∧ ∀ (i : Nat) (x : List UInt8), keys[i]? = some x → w.cell? ⟨g, off + i, none⟩ = some (.string (txt x)))
theorem KeysAt.below {w w' : World} {u : Value} {keys : List (List UInt8)} (h : KeysAt w u keys) (k : Below w.heap.size w w') : KeysAt w' u keys := by
  obtain ⟨a, c, hu, h⟩ := h
  refine ⟨a, c, hu, h.imp id ?_⟩
  rintro ⟨g, off, ha, hg, hh⟩
  exact ⟨g, off, ha, Nat.lt_of_lt_of_le hg k.size, fun i x hi => (k.cell (p := ⟨g, off + i, none⟩) hg).trans (hh i x hi)⟩
theorem field_no {keys : List (List UInt8)} {l : List UInt8} {q : Nat} (h : nb l q ≠ 34) : ∃ r j, field keys (l.drop q) = .no r j := by
  unfold field
  rw [if_pos (fun e => h ((Quo.head_nb l q).1 e))]
  unfold here
  split
  · exact ⟨_, _, rfl⟩
  · exact ⟨_, _, rfl⟩
theorem head_at (l : List UInt8) (q : Nat) (c : UInt8) (hc : c.toNat ≠ 0) : (l.drop q).head? = some c ↔ nb l q = c.toNat := by
  by_cases h : q < l.length
  · rw [List.drop_eq_getElem_cons h, nb_get h]
    simp only [List.head?_cons, Option.some.injEq]
    exact ⟨fun e => by rw [e], fun e => UInt8.toNat_inj.1 e⟩
  · rw [List.drop_eq_nil_of_le (by omega), nb_past (by omega)]
    simp
    exact fun e => hc e.symm
/-- What stands behind a key. -/
theorem field_on {keys : List (List UInt8)} {l : List UInt8} {q : Nat} (h : nb l q = 34) : field keys (l.drop q) = if (Quo.scan (l.drop q)).e ≠ 0 then .no (l.drop q) (Quo.scan (l.drop q)).e
    else if (Quo.scan (l.drop q)).s ∈ keys then .no (l.drop q) 6
    else if nb l (skipAt l (q + (Quo.scan (l.drop q)).size)) ≠ 58 then here (l.drop (skipAt l (q + (Quo.scan (l.drop q)).size)))
    else .ok (Quo.scan (l.drop q)).s (l.drop (skipAt l (skipAt l (q + (Quo.scan (l.drop q)).size) + 1))) := by
  unfold field
  rw [if_neg (by simpa using (Quo.head_nb l q).2 h), List.drop_drop, ← skipAt_drop, skipAt_drop]
  have e := head_at l (skipAt l (q + (Quo.scan (l.drop q)).size)) 58 (by decide)
  rw [← skipAt_drop, List.tail_drop, ← skipAt_drop]
  simp only [ne_eq, e]
  rfl
theorem keep11 {W : World} {g pb : Nat} {x : Value} (hne : pb ≠ g) (h : W.cell? ⟨pb, 0, none⟩ = some x) {v0 v1 v2 v3 v4 v5 v6 v7 v8 v9 v10 : Value} :
    (((((((((((W.setCell ⟨g, 0, none⟩ v0).setCell ⟨g, 1, none⟩ v1).setCell ⟨g, 2, none⟩ v2).setCell ⟨g, 3, none⟩ v3).setCell ⟨g, 4, none⟩ v4).setCell ⟨g, 5, none⟩ v5).setCell ⟨g, 6, none⟩ v6).setCell ⟨g, 7, none⟩ v7).setCell ⟨g, 8, none⟩ v8).setCell ⟨g, 9, none⟩ v9).setCell ⟨g, 10, none⟩ v10).cell? ⟨pb, 0, none⟩ = some x := by
  have ne : ∀ k, (⟨g, k, none⟩ : Addr) ≠ ⟨pb, 0, none⟩ := fun k e => by
    injection e with e _ _
    exact hne e.symm
  rw [World.cell?_setCell_other _ _ _ _ (ne 10), World.cell?_setCell_other _ _ _ _ (ne 9), World.cell?_setCell_other _ _ _ _ (ne 8), World.cell?_setCell_other _ _ _ _ (ne 7), World.cell?_setCell_other _ _ _ _ (ne 6), World.cell?_setCell_other _ _ _ _ (ne 5), World.cell?_setCell_other _ _ _ _ (ne 4), World.cell?_setCell_other _ _ _ _ (ne 3), World.cell?_setCell_other _ _ _ _ (ne 2), World.cell?_setCell_other _ _ _ _ (ne 1), World.cell?_setCell_other _ _ _ _ (ne 0)]
  exact h
set_option maxRecDepth 100000 in
set_option maxHeartbeats 2000000 in
theorem rfield_tells {w : World} {l : List UInt8} {q : Nat} {u : Value} {keys : List (List UInt8)} (hl : l.length < 100000) (hq : q ≤ l.length) (hkl : keys.length < 1000000) (hK : KeysAt w u keys) :
    Calls Tryz.prog 60 #[.string (txt l), .int .i64 q, u] w fun e w' => TellF l.length (field keys (l.drop q)) e ∧ Below w.heap.size w w' := by
  have hs := txt_size l
  have hA := World.alloc_heap_new w (.cells #[.int .i64 0, .bool false, .bool false, .string ⟨#[]⟩, .int .i64 0, .string ⟨#[]⟩, .slice none 0 0, .slice none 0 0, .int .i64 0, .int .i64 0, .int .i64 0] 31)
  have bA : Below w.heap.size w (w.alloc (.cells #[.int .i64 0, .bool false, .bool false, .string ⟨#[]⟩, .int .i64 0, .string ⟨#[]⟩, .slice none 0 0, .slice none 0 0, .int .i64 0, .int .i64 0, .int .i64 0] 31)) := (Below.refl _ w).alloc (Nat.le_refl _) _
  by_cases h34 : nb l q = 34
  · have hlt : q < l.length := nb_ne h34 (by decide)
    have g1 : ¬ ((l.length : Int) ≤ (q : Int)) := by omega
    have g2 : decide (l.length ≤ q) = false := decide_eq_false (by omega)
    have hix := idx hlt
    rw [h34] at hix
    have hsl := slL (l := l) (z := (q : Int)) (k := q) rfl hq
    have hfo := field_on (keys := keys) h34
    have hsc := fun (wx : World) => Quo.rscan_any (w := wx) (l := l.drop q) (by rw [List.length_drop]; omega)
    have hsz : (Quo.scan (l.drop q)).e = 0 → (Quo.scan (l.drop q)).size ≤ l.length - q := fun h => by
      have := (scan_ok h).2.2
      rwa [List.length_drop] at this
    have hb := fun (wx : World) (x : Int) => rbad_any (w := wx) (p := q) (e := x)
    simp only [badV] at hb
    unfold Quo.partV at hsc
    generalize field keys (l.drop q) = gg at *
    generalize Quo.scan (l.drop q) = P at *
    generalize l.drop q = t at *
    obtain ⟨ps, pn, pe⟩ := P
    dsimp only at hfo hsc hsz
    by_cases he : pe = 0
    · subst he
      rw [if_neg (by simp)] at hfo
      have hpn := hsz rfl
      obtain ⟨a, cc, rfl, hKK⟩ := hK
      generalize hkn : keys.length = kn at *
      have hbl := fun (wx : World) (i : Nat) (hi : i ≤ l.length) => rblanks_any (w := wx) (l := l) (i := i) hl hi
      have hqp : IntKind.i64.wrap ((q : Int) + (pn : Int)) = (q : Int) + (pn : Int) := by simp only [IntKind.wrap, IntKind.signed, IntKind.bits]; simp; omega
      have hbl1 : ∀ wx : World, Calls Tryz.prog 23 #[.string (txt l), .int .i64 ((q : Int) + (pn : Int))] wx fun e w' => e = .returned (.int .i64 (skipAt l (q + pn))) ∧ w' = wx := fun wx => by
        have := hbl wx (q + pn) (by omega)
        rwa [Int.natCast_add] at this
      have hzl := skipAt_le l (q + pn)
      generalize skipAt l (q + pn) = z at *
      have HFO := Lib.hid hfo
      have HKN := Lib.hid hkn
      have HKK := Lib.hid hKK
      clear hfo hsz hkn hKK
      go_enter Tryz.func60, Tryz.ntmps60
      go_wp2_with fail
      refine (hsc _).mono ?_
      rintro e w2 ⟨rfl, k2⟩
      have hA2 := new_of ((k2.block _ (lt_of_heap hA)).trans hA) (.cells #[.string (txt ps), .int .i64 pn, .int .i64 0] 77)
      have b2 := (bA.trans (k2.mono bA.size)).alloc (bA.trans (k2.mono bA.size)).size (.cells #[.string (txt ps), .int .i64 pn, .int .i64 0] 77)
      have hN := World.alloc_heap_new w2 (.cells #[.string (txt ps), .int .i64 pn, .int .i64 0] 77)
      have hPz := lt_of_heap ((k2.block _ (lt_of_heap hA)).trans hA)
      have HA2 := Lib.hid hA2
      have HB2 := Lib.hid b2
      have HN2 := Lib.hid hN
      clear hA hA2 hN k2 b2 bA
      go_upto_region 4 with fail
      obtain ⟨W, hW⟩ : ∃ W, w2.alloc (.cells #[.string (txt ps), .int .i64 pn, .int .i64 0] 77) = W := ⟨_, rfl⟩
      have hA2 := HA2.out
      have hN := HN2.out
      have b2 := HB2.out
      clear HA2 HN2 HB2
      rw [hW] at hA2 hN b2
      rw [hW]
      clear hW
      obtain ⟨n0, n1, n2⟩ := three hN
      generalize w2.heap.size = pb at *
      have HA2 := Lib.hid hA2
      have HB2 := Lib.hid b2
      have HN := Lib.hid hN
      clear hA2 b2 hN
      go_upto_region 7 with fail
      go_loopw [8] (fun s wr => ∃ j : Nat, s = .int .i64 j ∧ j ≤ kn ∧ (∀ i, i < j → keys[i]? ≠ some ps) ∧ Below W.heap.size W wr) (fun s _ => kn - (intOf s).toNat)
      case atStart => exact ⟨0, rfl, Nat.zero_le _, fun i hi => absurd hi (Nat.not_lt_zero _), Below.refl _ _⟩
      case round =>
        clear n0 n1 n2
        obtain ⟨j, rfl, hj, hno, bW⟩ := hrel
        have hN := (bW.block _ (lt_of_heap HN.out)).trans HN.out
        obtain ⟨n0, n1, n2⟩ := three hN
        have hA3 := (bW.block _ (lt_of_heap HA2.out)).trans HA2.out
        have b3 := HB2.out.trans (bW.mono HB2.out.size)
        have HA3 := Lib.hid hA3
        have HB3 := Lib.hid b3
        have HNO := Lib.hid hno
        clear hN hA3 b3 hno
        by_cases hjk : j < kn
        · have hjd : decide (j < kn) = true := decide_eq_true hjk
          have hjd' : (j : Int) < (kn : Int) := by omega
          have hwj : IntKind.i64.wrap ((j : Int) + 1) = (j : Int) + 1 := by simp only [IntKind.wrap, IntKind.signed, IntKind.bits]; simp; omega
          rcases HKK.out with hnil | ⟨g, off, rfl, hg, hcell⟩
          · have := HKN.out
            rw [hnil] at this
            simp at this
            omega
          obtain ⟨x, hx⟩ : ∃ x, keys[j]? = some x := ⟨_, List.getElem?_eq_getElem (by have := HKN.out; omega)⟩
          have hc := (HB3.out.cell (p := ⟨g, off + j, none⟩) hg).trans (hcell j x hx)
          have HX := Lib.hid hx
          have hgl : g < wr.heap.size := Nat.lt_of_lt_of_le hg HB3.out.size
          clear hcell hx
          by_cases hxp : x = ps
          · subst hxp
            have fin : ∀ p : Int, TellF l.length gg (.returned (badV p 6)) := fun p => .bad (r := t) (j := 6) (by rw [HFO.out, if_pos (List.mem_of_getElem? HX.out)]) (by decide)
            have HF := Lib.hid fin
            clear fin
            go_wp2_with fail
            go_quiet (fail)
            have hA4 := ((below_drewN (Below.refl _ _) nq).block _ (lt_of_heap HA3.out)).trans HA3.out
            have b4 := below_drewN HB3.out nq
            clear n0 n1 n2 hc
            generalize wr.drewN nq = W4 at *
            go_wp2_with fail
            refine (hb _ 6).mono ?_
            rintro e w5 ⟨rfl, k5⟩
            have hA5 := (k5.block _ (lt_of_heap hA4)).trans hA4
            have b5 := b4.trans (k5.mono b4.size)
            have h9 := set11 hA5 (.int .i64 0) (.bool false) (.bool false) (.string ⟨#[]⟩) (.int .i64 0) (.string ⟨#[]⟩) (.slice none 0 0) (.slice none 0 0) (.int .i64 0) (.int .i64 q) (.int .i64 6)
            have b9 := below11 b5 (Nat.le_refl _) (.int .i64 0) (.bool false) (.bool false) (.string ⟨#[]⟩) (.int .i64 0) (.string ⟨#[]⟩) (.slice none 0 0) (.slice none 0 0) (.int .i64 0) (.int .i64 q) (.int .i64 6)
            obtain ⟨d0, d1, d2, d3, d4, d5, d6, d7, d8, d9, d10⟩ := eleven h9
            obtain ⟨c0, c1, c2, c3, c4, c5, c6, c7, c8, c9, c10⟩ := eleven hA5
            have qf := free_of hA5
            clear h9 hA4 hA5 k5 b4 b5
            go_wp2_with fail
            refine bodyPost_ret (v := badV q 6) (by simp [results, Tryz.results60, go_sem, badV, d0, d1, d2, d3, d4, d5, d6, d7, d8, d9, d10]) rfl ⟨HF.out _, b9⟩
          · have hne := txt_ne hxp
            go_wp2_with fail
            go_quiet (fail)
            go_wp2_with fail
            go_roundw
            case rel => exact ⟨j + 1, by go_num, by omega, fun i hi => by
              by_cases e : i = j
              · subst e
                rw [HX.out]
                intro e
                injection e with e
                exact hxp e
              · exact HNO.out i (by omega), below_drewN bW _⟩
            case measure => simp [intOf]; omega
        · have hjd : decide (j < kn) = false := decide_eq_false hjk
          have hno : ps ∉ keys := fun hm => by
            obtain ⟨i, hi, e⟩ := List.mem_iff_getElem.1 hm
            exact HNO.out i (by have := HKN.out; omega) (by rw [List.getElem?_eq_getElem hi, e])
          have hfo := HFO.out
          rw [if_neg hno] at hfo
          clear HKN HKK HFO HNO hno
          by_cases h58 : nb l z = 58
          · have hzt : z < l.length := nb_ne h58 (by decide)
            have g3 : ¬ ((l.length : Int) ≤ (z : Int)) := by omega
            have g4 : decide (l.length ≤ z) = false := decide_eq_false (by omega)
            have hiz := idx hzt
            rw [h58] at hiz
            rw [if_neg (by simpa using h58)] at hfo
            have hwz : IntKind.i64.wrap ((z : Int) + 1) = (z : Int) + 1 := by simp only [IntKind.wrap, IntKind.signed, IntKind.bits]; simp; omega
            have hbl2 : ∀ wx : World, Calls Tryz.prog 23 #[.string (txt l), .int .i64 ((z : Int) + 1)] wx fun e w' => e = .returned (.int .i64 (skipAt l (z + 1))) ∧ w' = wx := fun wx => by
              have := hbl wx (z + 1) (by omega)
              rwa [Int.natCast_add] at this
            have hyl := skipAt_le l (z + 1)
            generalize skipAt l (z + 1) = y at *
            have fin : ∀ p : Int, TellF l.length gg (.returned (.agg #[.int .i64 0, .bool false, .bool false, .string ⟨#[]⟩, .int .i64 0, .string (txt ps), .slice none 0 0, .slice none 0 0, .int .i64 y, .int .i64 p, .int .i64 0])) := fun p => ⟨_, _, _, _, rfl, .inl ⟨ps, _, hfo, rfl, by rw [List.length_drop]; omega, rfl⟩⟩
            have HF := Lib.hid fin
            obtain ⟨c0, c1, c2, c3, c4, c5, c6, c7, c8, c9, c10⟩ := eleven HA3.out
            have qf := free_of HA3.out
            clear fin hfo h58
            go_wp2_with fail
            refine (hbl1 _).mono ?_
            rintro e w5 ⟨rfl, rfl⟩
            go_wp2_with fail
            have n0h := n0
            clear hbl hbl1 hsc hb hix hsl g1 g2 hqp hiz g3 g4
            clear n0 n1 n2 c0 c1 c2 c3 c4 c5 c6 c7 c8 c9 c10 qf
            have hcd : w5.drew.cell? ⟨pb, 0, none⟩ = some (.string (txt ps)) := n0h
            go_region_held3 (fun wx => wx.cell? ⟨pb, 0, none⟩ = some (.string (txt ps)))
              (first | with_reducible assumption | exact keep11 (by omega) (by with_reducible assumption) | go_keep)
              (first | (go_at_call 23; refine (hbl2 _).mono ?_; rintro e w6 ⟨rfl, hw6⟩; have hA6 : w6.heap[w.heap.size]? = some (.cells #[.int .i64 0, .bool false, .bool false, .string ⟨#[]⟩, .int .i64 0, .string ⟨#[]⟩, .slice none 0 0, .slice none 0 0, .int .i64 0, .int .i64 0, .int .i64 0] 31 (0, 0)) := (by rw [hw6]; exact HA3.out); have b6 : Below w.heap.size w w6 := (by rw [hw6]; exact below_drewN HB3.out 1); have s6 : w6.cell? ⟨pb, 0, none⟩ = some (.string (txt ps)) := (by rw [hw6]; exact hcd); clear hw6; obtain ⟨c0, c1, c2, c3, c4, c5, c6, c7, c8, c9, c10⟩ := eleven hA6; have qf := free_of hA6; have HA6 := Lib.hid hA6; have HB6 := Lib.hid b6; clear hA6 b6))
            have h9 := set11 HA6.out (.int .i64 0) (.bool false) (.bool false) (.string ⟨#[]⟩) (.int .i64 0) (.string (txt ps)) (.slice none 0 0) (.slice none 0 0) (.int .i64 y) (.int .i64 0) (.int .i64 0)
            have b9 := below11 HB6.out (Nat.le_refl _) (.int .i64 0) (.bool false) (.bool false) (.string ⟨#[]⟩) (.int .i64 0) (.string (txt ps)) (.slice none 0 0) (.slice none 0 0) (.int .i64 y) (.int .i64 0) (.int .i64 0)
            obtain ⟨d0, d1, d2, d3, d4, d5, d6, d7, d8, d9, d10⟩ := eleven h9
            go_wp2_with fail
            refine bodyPost_ret (v := .agg #[.int .i64 0, .bool false, .bool false, .string ⟨#[]⟩, .int .i64 0, .string (txt ps), .slice none 0 0, .slice none 0 0, .int .i64 y, .int .i64 0, .int .i64 0]) (by simp [results, Tryz.results60, go_sem, d0, d1, d2, d3, d4, d5, d6, d7, d8, d9, d10]) rfl ⟨HF.out _, b9⟩
          · have hE : hereE l z ≠ 0 := by unfold hereE; split <;> decide
            have hbh := fun (wx : World) => rhere_any (w := wx) (l := l) (q := z)
            simp only [badV] at hbh
            have hno2 : ∃ r j, gg = .no r j := by
              rw [if_pos (by simpa using h58)] at hfo
              rw [hfo]
              unfold here
              split
              · exact ⟨_, _, rfl⟩
              · exact ⟨_, _, rfl⟩
            obtain ⟨r, j', hno2⟩ := hno2
            have fin : ∀ p : Int, TellF l.length gg (.returned (badV p (hereE l z))) := fun p => .bad hno2 hE
            have HF := Lib.hid fin
            clear fin hno2 hE hfo
            generalize hereE l z = ee at *
            by_cases hzt : z < l.length
            · have g3 : ¬ ((l.length : Int) ≤ (z : Int)) := by omega
              have g4 : decide (l.length ≤ z) = false := decide_eq_false (by omega)
              have hiz := idx hzt
              have g5 : (((nb l z : Nat) : Int) != 58) = true := by simp; omega
              generalize nb l z = x at *
              go_wp2_with fail
              refine (hbl1 _).mono ?_
              rintro e w5 ⟨rfl, rfl⟩
              go_wp2_with fail
              refine (hbh _).mono ?_
              rintro e w6 ⟨rfl, k6⟩
              have hA5 := (k6.block _ (lt_of_heap HA3.out)).trans HA3.out
              have b5 := HB3.out.trans (k6.mono HB3.out.size)
              have h9 := set11 hA5 (.int .i64 0) (.bool false) (.bool false) (.string ⟨#[]⟩) (.int .i64 0) (.string ⟨#[]⟩) (.slice none 0 0) (.slice none 0 0) (.int .i64 0) (.int .i64 z) (.int .i64 ee)
              have b9 := below11 b5 (Nat.le_refl _) (.int .i64 0) (.bool false) (.bool false) (.string ⟨#[]⟩) (.int .i64 0) (.string ⟨#[]⟩) (.slice none 0 0) (.slice none 0 0) (.int .i64 0) (.int .i64 z) (.int .i64 ee)
              obtain ⟨d0, d1, d2, d3, d4, d5, d6, d7, d8, d9, d10⟩ := eleven h9
              obtain ⟨c0, c1, c2, c3, c4, c5, c6, c7, c8, c9, c10⟩ := eleven hA5
              have qf := free_of hA5
              clear h9 hA5 k6 b5 n0 n1 n2
              go_wp2_with fail
              refine bodyPost_ret (v := badV z ee) (by simp [results, Tryz.results60, go_sem, badV, d0, d1, d2, d3, d4, d5, d6, d7, d8, d9, d10]) rfl ⟨HF.out _, b9⟩
            · have g3 : (l.length : Int) ≤ (z : Int) := by omega
              have g4 : decide (l.length ≤ z) = true := decide_eq_true (by omega)
              go_wp2_with fail
              refine (hbl1 _).mono ?_
              rintro e w5 ⟨rfl, rfl⟩
              go_wp2_with fail
              refine (hbh _).mono ?_
              rintro e w6 ⟨rfl, k6⟩
              have hA5 := (k6.block _ (lt_of_heap HA3.out)).trans HA3.out
              have b5 := HB3.out.trans (k6.mono HB3.out.size)
              have h9 := set11 hA5 (.int .i64 0) (.bool false) (.bool false) (.string ⟨#[]⟩) (.int .i64 0) (.string ⟨#[]⟩) (.slice none 0 0) (.slice none 0 0) (.int .i64 0) (.int .i64 z) (.int .i64 ee)
              have b9 := below11 b5 (Nat.le_refl _) (.int .i64 0) (.bool false) (.bool false) (.string ⟨#[]⟩) (.int .i64 0) (.string ⟨#[]⟩) (.slice none 0 0) (.slice none 0 0) (.int .i64 0) (.int .i64 z) (.int .i64 ee)
              obtain ⟨d0, d1, d2, d3, d4, d5, d6, d7, d8, d9, d10⟩ := eleven h9
              obtain ⟨c0, c1, c2, c3, c4, c5, c6, c7, c8, c9, c10⟩ := eleven hA5
              have qf := free_of hA5
              clear h9 hA5 k6 b5 n0 n1 n2
              go_wp2_with fail
              refine bodyPost_ret (v := badV z ee) (by simp [results, Tryz.results60, go_sem, badV, d0, d1, d2, d3, d4, d5, d6, d7, d8, d9, d10]) rfl ⟨HF.out _, b9⟩
    · rw [if_pos he] at hfo
      have he1 : (((pe : Nat) : Int) != 0) = true := by simp; omega
      have fin : ∀ p : Int, TellF l.length gg (.returned (badV p pe)) := fun p => .bad hfo (by omega)
      have HF := Lib.hid fin
      clear fin hfo hsz
      go_enter Tryz.func60, Tryz.ntmps60
      go_wp2_with fail
      refine (hsc _).mono ?_
      rintro e w2 ⟨rfl, k2⟩
      have hA2 := new_of ((k2.block _ (lt_of_heap hA)).trans hA) (.cells #[.string (txt ps), .int .i64 pn, .int .i64 pe] 77)
      have b2 := (bA.trans (k2.mono bA.size)).alloc (bA.trans (k2.mono bA.size)).size (.cells #[.string (txt ps), .int .i64 pn, .int .i64 pe] 77)
      have hN := World.alloc_heap_new w2 (.cells #[.string (txt ps), .int .i64 pn, .int .i64 pe] 77)
      have HA2 := Lib.hid hA2
      have HB2 := Lib.hid b2
      have HN2 := Lib.hid hN
      clear hA hA2 hN k2 b2 bA
      go_upto_region 4 with fail
      obtain ⟨W, hW⟩ : ∃ W, w2.alloc (.cells #[.string (txt ps), .int .i64 pn, .int .i64 pe] 77) = W := ⟨_, rfl⟩
      have hA2 := HA2.out
      have hN := HN2.out
      have b2 := HB2.out
      clear HA2 HN2 HB2
      rw [hW] at hA2 hN b2
      rw [hW]
      clear hW
      obtain ⟨n0, n1, n2⟩ := three hN
      go_wp2_with fail
      refine (hb _ pe).mono ?_
      rintro e w3 ⟨rfl, k3⟩
      have hA3 := (k3.block _ (lt_of_heap hA2)).trans hA2
      have b3 := b2.trans (k3.mono b2.size)
      have h9 := set11 hA3 (.int .i64 0) (.bool false) (.bool false) (.string ⟨#[]⟩) (.int .i64 0) (.string ⟨#[]⟩) (.slice none 0 0) (.slice none 0 0) (.int .i64 0) (.int .i64 q) (.int .i64 pe)
      have b9 := below11 b3 (Nat.le_refl _) (.int .i64 0) (.bool false) (.bool false) (.string ⟨#[]⟩) (.int .i64 0) (.string ⟨#[]⟩) (.slice none 0 0) (.slice none 0 0) (.int .i64 0) (.int .i64 q) (.int .i64 pe)
      obtain ⟨d0, d1, d2, d3, d4, d5, d6, d7, d8, d9, d10⟩ := eleven h9
      obtain ⟨c0, c1, c2, c3, c4, c5, c6, c7, c8, c9, c10⟩ := eleven hA3
      have qf := free_of hA3
      clear h9 hA2 hA3 k3 b3 b2 n0 n1 n2 hN
      go_wp2_with fail
      refine bodyPost_ret (v := badV q pe) (by simp [results, Tryz.results60, go_sem, badV, d0, d1, d2, d3, d4, d5, d6, d7, d8, d9, d10]) rfl ⟨HF.out _, b9⟩
  · obtain ⟨r, j, hno⟩ := field_no (keys := keys) h34
    have hE : hereE l q ≠ 0 := by unfold hereE; split <;> decide
    have hb := fun (wx : World) => rhere_any (w := wx) (l := l) (q := q)
    simp only [badV] at hb
    have fin : ∀ p : Int, TellF l.length (field keys (l.drop q)) (.returned (badV p (hereE l q))) := fun p => .bad hno hE
    have HF := Lib.hid fin
    clear fin hno hE
    generalize hereE l q = ee at *
    generalize field keys (l.drop q) = gg at *
    by_cases hlt : q < l.length
    · have g1 : ¬ ((l.length : Int) ≤ (q : Int)) := by omega
      have g2 : decide (l.length ≤ q) = false := decide_eq_false (by omega)
      have hix := idx hlt
      have g3 : (((nb l q : Nat) : Int) != 34) = true := by simp; omega
      generalize nb l q = x at *
      go_enter Tryz.func60, Tryz.ntmps60
      go_wp2_with fail
      refine (hb _).mono ?_
      rintro e w2 ⟨rfl, k2⟩
      have hA2 := (k2.block _ (lt_of_heap hA)).trans hA
      have b2 := bA.trans (k2.mono bA.size)
      have h9 := set11 hA2 (.int .i64 0) (.bool false) (.bool false) (.string ⟨#[]⟩) (.int .i64 0) (.string ⟨#[]⟩) (.slice none 0 0) (.slice none 0 0) (.int .i64 0) (.int .i64 q) (.int .i64 ee)
      have b9 := below11 b2 (Nat.le_refl _) (.int .i64 0) (.bool false) (.bool false) (.string ⟨#[]⟩) (.int .i64 0) (.string ⟨#[]⟩) (.slice none 0 0) (.slice none 0 0) (.int .i64 0) (.int .i64 q) (.int .i64 ee)
      obtain ⟨d0, d1, d2, d3, d4, d5, d6, d7, d8, d9, d10⟩ := eleven h9
      obtain ⟨c0, c1, c2, c3, c4, c5, c6, c7, c8, c9, c10⟩ := eleven hA2
      have qf := free_of hA2
      clear h9 hA hA2 k2 b2
      go_wp2_with fail
      refine bodyPost_ret (v := badV q ee) (by simp [results, Tryz.results60, go_sem, badV, d0, d1, d2, d3, d4, d5, d6, d7, d8, d9, d10]) rfl ⟨HF.out _, b9⟩
    · have g1 : (l.length : Int) ≤ (q : Int) := by omega
      have g2 : decide (l.length ≤ q) = true := decide_eq_true (by omega)
      go_enter Tryz.func60, Tryz.ntmps60
      go_wp2_with fail
      refine (hb _).mono ?_
      rintro e w2 ⟨rfl, k2⟩
      have hA2 := (k2.block _ (lt_of_heap hA)).trans hA
      have b2 := bA.trans (k2.mono bA.size)
      have h9 := set11 hA2 (.int .i64 0) (.bool false) (.bool false) (.string ⟨#[]⟩) (.int .i64 0) (.string ⟨#[]⟩) (.slice none 0 0) (.slice none 0 0) (.int .i64 0) (.int .i64 q) (.int .i64 ee)
      have b9 := below11 b2 (Nat.le_refl _) (.int .i64 0) (.bool false) (.bool false) (.string ⟨#[]⟩) (.int .i64 0) (.string ⟨#[]⟩) (.slice none 0 0) (.slice none 0 0) (.int .i64 0) (.int .i64 q) (.int .i64 ee)
      obtain ⟨d0, d1, d2, d3, d4, d5, d6, d7, d8, d9, d10⟩ := eleven h9
      obtain ⟨c0, c1, c2, c3, c4, c5, c6, c7, c8, c9, c10⟩ := eleven hA2
      have qf := free_of hA2
      clear h9 hA hA2 k2 b2
      go_wp2_with fail
      refine bodyPost_ret (v := badV q ee) (by simp [results, Tryz.results60, go_sem, badV, d0, d1, d2, d3, d4, d5, d6, d7, d8, d9, d10]) rfl ⟨HF.out _, b9⟩
end Go.Proofs.YtlfbnfphocpgeaaGreatDoor.Jdec
namespace Go.Proofs.YtlfbnfphocpgeaaGreatDoor.Quo
open Utf
/-- A scalar that stands in a quoted text as it is. -/
def AsIs (c : Nat) : Prop := 32 ≤ c ∧ c ≠ 34 ∧ c ≠ 92
instance (c : Nat) : Decidable (AsIs c) := by unfold AsIs; exact inferInstance
theorem part_plain {c : Nat} (hc : Scalar c) (h : AsIs c) (r : List UInt8) : part (enc c ++ r) = ⟨enc c, (enc c).length, 0⟩ ∧ (enc c ++ r).head? ≠ some 34 := by
  have hs := h
  unfold AsIs at hs
  by_cases h1 : c < 128
  · have e : (UInt8.ofNat c).toNat = c := nbc (by omega)
    have hb := enc_byte (x := UInt8.ofNat c) (by omega)
    rw [e] at hb
    have h92 : UInt8.ofNat c ≠ 92 := by
      intro k
      rw [k] at e
      exact hs.2.2 e.symm
    have h34 : UInt8.ofNat c ≠ 34 := by
      intro k
      rw [k] at e
      exact hs.2.1 e.symm
    have ho := one_enc hc r
    rw [hb] at ho ⊢
    refine ⟨?_, by simpa using h34⟩
    show part (UInt8.ofNat c :: r) = _
    have ho' : one (UInt8.ofNat c :: r) = (c, 1) := ho
    unfold part
    dsimp only
    rw [if_neg (by omega), if_pos h92, ho']
    dsimp only
    rw [if_neg (by omega)]
    rfl
  · refine ⟨part_hi hc (by omega) r, ?_⟩
    have hl := enc_len (c := c)
    obtain ⟨b, t, e⟩ := List.exists_cons_of_ne_nil (show enc c ≠ [] by intro e; rw [e] at hl; simp at hl)
    have hb0 := enc_hi hc (by omega) b (by rw [e]; simp)
    rw [e]
    simp
    rintro rfl
    revert hb0
    decide
theorem not_asIs_lt {c : Nat} (h : ¬ AsIs c) : c < 128 := by
  unfold AsIs at h
  omega
/-- What doesn't begin a scalar isn't below 128. -/
theorem one_hi {c : UInt8} {r : List UInt8} (h : (one (c :: r)).2 = 0) : 128 ≤ c.toNat := by
  by_cases h1 : c.toNat < 128
  · exfalso
    have := one_enc (c := c.toNat) (by unfold Scalar; omega) r
    rw [enc_byte h1] at this
    have e : one (c :: r) = (c.toNat, 1) := this
    rw [e] at h
    cases h
  · omega
theorem part_bad {l : List UInt8} (hne : l ≠ []) (h : (one l).2 = 0) : part l = err 7 ∧ l.head? ≠ some 34 := by
  obtain ⟨c, r, rfl⟩ := List.exists_cons_of_ne_nil hne
  have h1 := one_hi h
  constructor
  · unfold part
    dsimp only
    rw [if_neg (by omega), if_pos (by rintro rfl; revert h1; decide), if_pos h]
  · simp
    rintro rfl
    revert h1
    decide
/-- Up to a scalar that doesn't stand as it is. -/
theorem scan_till : ∀ (n : Nat) (l : List UInt8), l.length = n → ∀ (p k c : Nat) (pre suf : List (Nat × Nat)), (Utf.scan p l).1 = pre ++ (k, c) :: suf → (∀ x ∈ pre, AsIs x.2) → ¬ AsIs c →
    ∃ m r, k = p + m ∧ m ≤ l.length ∧ l.drop m = UInt8.ofNat c :: r ∧ ∀ s at', scanF s at' l = scanF (s ++ l.take m) (at' + m) (l.drop m) := by
  intro n
  induction n using Nat.strongRecOn with
  | ind n ih =>
    intro l hl p k c pre suf h hpre hc
    rcases scan_cases l with rfl | ⟨hne, h0⟩ | ⟨d, r, hd, rfl, ho, hr⟩
    · rw [scan_nil] at h
      simp at h
    · rw [scan_bad hne h0] at h
      simp at h
    · rw [scan_enc hd r] at h
      cases pre with
      | nil =>
        rw [List.nil_append] at h
        injection h with h1 h2
        injection h1 with h3 h4
        subst h3; subst h4
        have hb := enc_byte (x := UInt8.ofNat d) (by rw [nbc (by have := not_asIs_lt hc; omega)]; exact not_asIs_lt hc)
        rw [nbc (by have := not_asIs_lt hc; omega)] at hb
        exact ⟨0, r, rfl, Nat.zero_le _, by rw [hb]; rfl, fun s at' => by simp⟩
      | cons x pre' =>
        rw [List.cons_append] at h
        injection h with h1 h2
        have hx := hpre x (by simp)
        rw [← h1] at hx
        obtain ⟨m, r', e1, e2, e3, e4⟩ := ih r.length (by rw [List.length_append] at hl; have := (enc_len (c := d)).1; omega) r rfl (p + (enc d).length) k c pre' suf h2 (fun y hy => hpre y (by simp [hy])) hc
        have hp := part_plain hd hx r
        have hdr : (enc d ++ r).drop ((enc d).length + m) = r.drop m := by rw [List.drop_append]; simp
        refine ⟨(enc d).length + m, r', by omega, by rw [List.length_append]; omega, by rw [hdr]; exact e3, fun s at' => ?_⟩
        rw [scanF_on hp.2 (by rw [hp.1]), hp.1]
        dsimp only
        have htk : (enc d ++ r).take ((enc d).length + m) = enc d ++ r.take m := by
          rw [List.take_append, List.take_of_length_le (by omega), Nat.add_sub_cancel_left]
        rw [List.drop_left, e4, hdr, htk, List.append_assoc, Nat.add_assoc]
/-- Nothing but scalars that stand as they are. -/
theorem scan_thro : ∀ (n : Nat) (l : List UInt8), l.length = n → ∀ (p : Nat), (∀ x ∈ (Utf.scan p l).1, AsIs x.2) → ∀ s at', scanF s at' l = err (if (Utf.scan p l).2 = none then 2 else 7) := by
  intro n
  induction n using Nat.strongRecOn with
  | ind n ih =>
    intro l hl p h s at'
    rcases scan_cases l with rfl | ⟨hne, h0⟩ | ⟨d, r, hd, rfl, ho, hr⟩
    · rw [scan_nil, if_pos rfl, scanF_err (by simp) (by decide)]
      rfl
    · have hp := part_bad hne h0
      rw [scan_bad hne h0, if_neg (by simp), scanF_err hp.2 (by rw [hp.1]; decide), hp.1]
      rfl
    · rw [scan_enc hd r] at h ⊢
      have hx := h (p, d) (by simp)
      have hp := part_plain hd hx r
      rw [scanF_on hp.2 (by rw [hp.1]), hp.1]
      dsimp only
      rw [List.drop_left]
      exact ih r.length (by rw [List.length_append] at hl; have := (enc_len (c := d)).1; omega) r rfl (p + (enc d).length) (fun y hy => h y (by simp [hy])) _ _
theorem all_till {l : List UInt8} {k c : Nat} {pre suf : List (Nat × Nat)} (h : all l = pre ++ (k, c) :: suf) (hpre : ∀ x ∈ pre, AsIs x.2) (hc : ¬ AsIs c) :
    k ≤ l.length ∧ (∃ r, l.drop k = UInt8.ofNat c :: r) ∧ ∀ s at', scanF s at' l = scanF (s ++ l.take k) (at' + k) (l.drop k) := by
  obtain ⟨m, r, e1, e2, e3, e4⟩ := scan_till l.length l rfl 0 k c pre suf h hpre hc
  obtain rfl : k = m := by omega
  exact ⟨e2, ⟨r, e3⟩, e4⟩
theorem all_thro {l : List UInt8} (h : ∀ x ∈ all l, AsIs x.2) (s : List UInt8) (at' : Nat) : scanF s at' l = err (if bad l = none then 2 else 7) := scan_thro l.length l rfl 0 h s at'
theorem scanF_no : ∀ (k : Nat) (l : List UInt8), l.length = k → ∀ (s : List UInt8) (at' : Nat), (scanF s at' l).e ≠ 0 → scanF s at' l = err (scanF s at' l).e := by
  intro k
  induction k using Nat.strongRecOn with
  | ind k ih =>
    intro l hl s at' h
    by_cases h1 : l.head? = some 34
    · rw [scanF_end h1] at h
      exact absurd rfl h
    · by_cases he : (part l).e = 0
      · rw [scanF_on h1 he] at h ⊢
        obtain ⟨c, k1, k2, k3, k4⟩ := part_ok he
        exact ih (l.drop (part l).size).length (by rw [List.length_drop]; omega) _ rfl _ _ h
      · rw [scanF_err h1 he]
        rfl
theorem scan_err_nil {l : List UInt8} (h : (scan l).e ≠ 0) : scan l = err (scan l).e := by
  unfold scan at h ⊢
  split at h
  · rfl
  · split at h
    · rename_i c r hc
      rw [if_pos hc]
      rfl
    · rename_i c r hc
      rw [if_neg hc]
      exact scanF_no r.length r rfl [] 1 h
end Go.Proofs.YtlfbnfphocpgeaaGreatDoor.Quo
namespace Go.Proofs.YtlfbnfphocpgeaaGreatDoor.Quo
open Go.RowKit Kit Txt Utf
/-- The reader in block R has l left. -/
def Rdr (R : Nat) (l : List UInt8) (w : World) : Prop := w.heap[R]? = some (.cells #[.string (txt l)] 126 (0, 0))
def rp (R : Nat) : Value := .pointer (some ⟨R, 0, none⟩)
/-- What is thrown. -/
def thrown (k : Nat) : Ending := .panicked [{ v := .iface 33 (.int .i64 k), recovered := false }]
theorem Rdr.took {R : Nat} {l m : List UInt8} {w : World} (h : Rdr R l w) : Rdr R m (w.setCell ⟨R, 0, none⟩ (.string (txt m))) := set_of h 0 _
theorem Rdr.kept {R : Nat} {l : List UInt8} {w w' : World} {row : Option Nat} (h : Rdr R l w) (k : w.grownBy w' row) (hr : some R ≠ row) : Rdr R l w' := (k.block R (lt_of_heap h) hr).trans h
theorem Rdr.below {R : Nat} {l : List UInt8} {w w' : World} {B : Nat} (h : Rdr R l w) (k : Below B w w') (hr : R < B) : Rdr R l w' := (k.block R hr).trans h
theorem grownBy.trans {a b c : World} {row : Option Nat} (h : a.grownBy b row) (k : b.grownBy c row) : a.grownBy c row :=
  ⟨k.os.trans h.os, k.tape.trans h.tape, k.output.trans h.output, Nat.le_trans h.size k.size, fun i hi hr => (k.block i (Nat.lt_of_lt_of_le hi h.size) hr).trans (h.block i hi hr)⟩
theorem idx0 (c : UInt8) (r : List UInt8) (wx : World) : (Instr.index 9 (.string (txt (c :: r))) (.int .i64 0)).run Tryz.prog wx = .ok (.int .u8 (c.toNat : Int)) wx := by
  have h := idx (l := c :: r) (i := 0) (by simp) wx
  rwa [nb_get (by simp)] at h
theorem sl1 (c : UInt8) (r : List UInt8) (wx : World) : (Instr.slice 9 (.string (txt (c :: r))) (some (.int .i64 1)) none none).run Tryz.prog wx = .ok (.string (txt r)) wx := slL (l := c :: r) (k := 1) rfl (by simp) wx
set_option maxRecDepth 100000 in
set_option maxHeartbeats 1000000 in
theorem next_cons {w : World} {R : Nat} {c : UInt8} {r : List UInt8} (h : Rdr R (c :: r) w) :
    Calls Tryz.prog 125 #[rp R] w fun e w' => e = .returned (.int .u8 (c.toNat : Int)) ∧ Rdr R r w' ∧ w.grownBy w' (some R) := by
  have hc := cell_of h 0
  have hf := free_of h 0
  have he : (txt (c :: r)).toList.isEmpty = false := by unfold txt; rw [ByteArray.toList_mk]; rfl
  have hi := idx0 c r
  have hs := sl1 c r
  unfold rp
  have hw : Rdr R r (w.setCell ⟨R, 0, none⟩ (.string (txt r))) ∧ w.grownBy (w.setCell ⟨R, 0, none⟩ (.string (txt r))) (some R) := ⟨h.took, grownBy_setCell' _ _ _⟩
  have hW := Lib.hid hw
  clear hw h
  go_enter Tryz.func125, Tryz.ntmps125
  go_wp2_with fail
  go_ret
  exact ⟨rfl, hW.out⟩
set_option maxRecDepth 100000 in
set_option maxHeartbeats 1000000 in
theorem next_nil {w : World} {R : Nat} (h : Rdr R [] w) : Calls Tryz.prog 125 #[rp R] w fun e w' => e = thrown 2 ∧ w' = w := by
  have hc := cell_of h 0
  have he : (txt []).toList = [] := by unfold txt; rw [ByteArray.toList_mk]
  unfold rp thrown
  go_enter Tryz.func125, Tryz.ntmps125
  go_wp2_with fail
  exact ⟨rfl, rfl, rfl⟩
/-- What a method of the reader tells: a value, and what is left behind it; or it throws. -/
def Takes (R : Nat) (w : World) (k : Nat) (v : Value) (rest : List UInt8) (e : Ending) (w' : World) : Prop := w.grownBy w' (some R) ∧ ((k = 0 ∧ e = .returned v ∧ Rdr R rest w') ∨ (k ≠ 0 ∧ e = thrown k))
theorem Takes.mk {R : Nat} {w : World} {v : Value} {rest : List UInt8} {w' : World} (h : Rdr R rest w') (g : w.grownBy w' (some R)) : Takes R w 0 v rest (.returned v) w' := ⟨g, .inl ⟨rfl, rfl, h⟩⟩
theorem Takes.no {R : Nat} {w : World} {k : Nat} {v : Value} {rest : List UInt8} {w' : World} (h : k ≠ 0) (g : w.grownBy w' (some R)) : Takes R w k v rest (thrown k) w' := ⟨g, .inr ⟨h, rfl⟩⟩
/-- Whether a byte stands there. -/
def wantE (c : UInt8) (l : List UInt8) : Nat := match l with
  | [] => 2
  | d :: _ => if d = c then 0 else 3
set_option maxRecDepth 100000 in
set_option maxHeartbeats 1000000 in
theorem mwant_any {w : World} {R : Nat} {c : UInt8} {l : List UInt8} {x : Int} (h : Rdr R l w) (hx : x = (c.toNat : Int)) :
    Calls Tryz.prog 123 #[rp R, .int .u8 x] w fun e w' => Takes R w (wantE c l) (.tuple #[]) l.tail e w' := by
  cases l with
  | nil =>
    have hn := next_nil h
    unfold rp at *
    go_enter Tryz.func123, Tryz.ntmps123
    go_wp2_with fail
    refine hn.mono ?_
    rintro e w1 ⟨rfl, rfl⟩
    exact ⟨rfl, .no (Nat.succ_ne_zero 1) (World.grownBy.refl _ _)⟩
  | cons d r =>
    have hn := next_cons h
    unfold rp at *
    by_cases hd : d = c
    · have e1 : ((d.toNat : Int) != x) = false := by rw [hx, hd]; simp
      have e0 : wantE c (d :: r) = 0 := if_pos hd
      rw [e0]
      clear hd hx e0
      go_enter Tryz.func123, Tryz.ntmps123
      go_wp2_with fail
      refine hn.mono ?_
      rintro e w1 ⟨rfl, k1, k2⟩
      go_wp2_with fail
      go_end0
      exact .mk k1 k2
    · have e1 : ((d.toNat : Int) != x) = true := by
        rw [hx]
        simp
        intro e
        exact hd (UInt8.toNat_inj.1 (by omega))
      have e0 : wantE c (d :: r) = 3 := if_neg hd
      rw [e0]
      clear hd hx e0
      go_enter Tryz.func123, Tryz.ntmps123
      go_wp2_with fail
      refine hn.mono ?_
      rintro e w1 ⟨rfl, k1, k2⟩
      go_wp2_with fail
      exact ⟨rfl, .no (by decide) k2⟩
/-- A digit's value; the error. -/
def digE (l : List UInt8) : Nat := match l with
  | [] => 2
  | c :: _ => match hexV c with
    | none => 3
    | some _ => 0
def digV (l : List UInt8) : Nat := match l with
  | [] => 0
  | c :: _ => (hexV c).getD 0
set_option maxRecDepth 100000 in
set_option maxHeartbeats 1000000 in
theorem mdigit_any {w : World} {R : Nat} {l : List UInt8} (h : Rdr R l w) :
    Calls Tryz.prog 202 #[rp R] w fun e w' => Takes R w (digE l) (.int .i64 (digV l : Int)) l.tail e w' := by
  cases l with
  | nil =>
    have hn := next_nil h
    unfold rp at *
    go_enter Tryz.func202, Tryz.ntmps202
    go_wp2_with fail
    refine hn.mono ?_
    rintro e w1 ⟨rfl, rfl⟩
    exact ⟨rfl, .no (by decide) (World.grownBy.refl _ _)⟩
  | cons c r =>
    have hn := next_cons h
    unfold rp at *
    have hlt : c.toNat < 256 := c.toNat_lt
    have hc := hexI_cases c
    have hE : (hexV c = none ∧ hexI c = -1 ∧ digE (c :: r) = 3) ∨ (∃ d, hexV c = some d ∧ hexI c = d ∧ digE (c :: r) = 0 ∧ digV (c :: r) = d) := by
      cases hv : hexV c with
      | none => exact .inl ⟨rfl, hexI_none hv, by unfold digE; dsimp only; rw [hv]⟩
      | some d => exact .inr ⟨d, rfl, (hexI_some hv).1, by unfold digE; dsimp only; rw [hv], by unfold digV; dsimp only; rw [hv]; rfl⟩
    rw [List.tail_cons]
    generalize digE (c :: r) = ee at *
    generalize digV (c :: r) = dd at *
    generalize c.toNat = x at *
    have w1 : 48 ≤ x → IntKind.u8.wrap ((x : Int) - 48) = (x : Int) - 48 := fun h => by simp only [IntKind.wrap, IntKind.signed, IntKind.bits]; simp; omega
    have w2 : 97 ≤ x → IntKind.u8.wrap ((x : Int) - 97) = (x : Int) - 97 := fun h => by simp only [IntKind.wrap, IntKind.signed, IntKind.bits]; simp; omega
    have w3 : 65 ≤ x → IntKind.u8.wrap ((x : Int) - 65) = (x : Int) - 65 := fun h => by simp only [IntKind.wrap, IntKind.signed, IntKind.bits]; simp; omega
    rcases hc with ⟨h1, h2, h3⟩ | ⟨h1, h2, h3⟩ | ⟨h1, h2, h3⟩ | ⟨h1, h2, h3, h4⟩
    · rcases hE with ⟨_, k, _⟩ | ⟨d, -, k, rfl, rfl⟩
      · exfalso; omega
      have e : (dd : Int) = (x : Int) - 48 := by omega
      rw [e]
      have w1 := w1 h1
      have d1 : (48 : Int) ≤ (x : Int) := by omega
      have d2 : (x : Int) ≤ 57 := by omega
      clear h3 w2 w3 k e
      go_enter Tryz.func202, Tryz.ntmps202
      go_wp2_with fail
      refine hn.mono ?_
      rintro e w1 ⟨rfl, k1, k2⟩
      go_wp2_with fail
      go_ret
      exact .mk k1 k2
    · rcases hE with ⟨_, k, _⟩ | ⟨d, -, k, rfl, rfl⟩
      · exfalso; omega
      have e : (dd : Int) = (x : Int) - 97 + 10 := by omega
      rw [e]
      have w2 := w2 h1
      have d0 : decide ((x : Int) ≤ 57) = false := by simp; omega
      have d3 : (48 : Int) ≤ (x : Int) := by omega
      have d1 : (97 : Int) ≤ (x : Int) := by omega
      have d2 : (x : Int) ≤ 102 := by omega
      have w4 : IntKind.i64.wrap ((x : Int) - 97 + 10) = (x : Int) - 97 + 10 := by simp only [IntKind.wrap, IntKind.signed, IntKind.bits]; simp; omega
      clear h3 w1 w3 k e
      go_enter Tryz.func202, Tryz.ntmps202
      go_wp2_with fail
      refine hn.mono ?_
      rintro e w1 ⟨rfl, k1, k2⟩
      go_wp2_with fail
      go_ret
      exact .mk k1 k2
    · rcases hE with ⟨_, k, _⟩ | ⟨d, -, k, rfl, rfl⟩
      · exfalso; omega
      have e : (dd : Int) = (x : Int) - 65 + 10 := by omega
      rw [e]
      have w3 := w3 h1
      have d0 : decide ((x : Int) ≤ 57) = false := by simp; omega
      have d3 : (48 : Int) ≤ (x : Int) := by omega
      have d4 : decide ((97 : Int) ≤ (x : Int)) = false := by simp; omega
      have d1 : (65 : Int) ≤ (x : Int) := by omega
      have d2 : (x : Int) ≤ 70 := by omega
      have w4 : IntKind.i64.wrap ((x : Int) - 65 + 10) = (x : Int) - 65 + 10 := by simp only [IntKind.wrap, IntKind.signed, IntKind.bits]; simp; omega
      clear h3 w1 w2 k e
      go_enter Tryz.func202, Tryz.ntmps202
      go_wp2_with fail
      refine hn.mono ?_
      rintro e w1 ⟨rfl, k1, k2⟩
      go_wp2_with fail
      go_ret
      exact .mk k1 k2
    · rcases hE with ⟨-, -, rfl⟩ | ⟨d, -, k, -, -⟩
      case inr => exfalso; omega
      clear w1 w2 w3 h4
      by_cases a1 : x < 48
      · have d1 : decide ((48 : Int) ≤ (x : Int)) = false := by simp; omega
        have d2 : decide ((97 : Int) ≤ (x : Int)) = false := by simp; omega
        have d3 : decide ((65 : Int) ≤ (x : Int)) = false := by simp; omega
        go_enter Tryz.func202, Tryz.ntmps202
        go_wp2_with fail
        refine hn.mono ?_
        rintro e w1 ⟨rfl, k1, k2⟩
        go_wp2_with fail
        exact ⟨rfl, .no (by decide) k2⟩
      by_cases a2 : x < 65
      · have d1 : (48 : Int) ≤ (x : Int) := by omega
        have d4 : decide ((x : Int) ≤ 57) = false := by simp; omega
        have d2 : decide ((97 : Int) ≤ (x : Int)) = false := by simp; omega
        have d3 : decide ((65 : Int) ≤ (x : Int)) = false := by simp; omega
        go_enter Tryz.func202, Tryz.ntmps202
        go_wp2_with fail
        refine hn.mono ?_
        rintro e w1 ⟨rfl, k1, k2⟩
        go_wp2_with fail
        exact ⟨rfl, .no (by decide) k2⟩
      by_cases a3 : x < 97
      · have d1 : (48 : Int) ≤ (x : Int) := by omega
        have d4 : decide ((x : Int) ≤ 57) = false := by simp; omega
        have d2 : decide ((97 : Int) ≤ (x : Int)) = false := by simp; omega
        have d3 : (65 : Int) ≤ (x : Int) := by omega
        have d5 : decide ((x : Int) ≤ 70) = false := by simp; omega
        go_enter Tryz.func202, Tryz.ntmps202
        go_wp2_with fail
        refine hn.mono ?_
        rintro e w1 ⟨rfl, k1, k2⟩
        go_wp2_with fail
        exact ⟨rfl, .no (by decide) k2⟩
      · have d1 : (48 : Int) ≤ (x : Int) := by omega
        have d4 : decide ((x : Int) ≤ 57) = false := by simp; omega
        have d2 : (97 : Int) ≤ (x : Int) := by omega
        have d6 : decide ((x : Int) ≤ 102) = false := by simp; omega
        have d3 : (65 : Int) ≤ (x : Int) := by omega
        have d5 : decide ((x : Int) ≤ 70) = false := by simp; omega
        go_enter Tryz.func202, Tryz.ntmps202
        go_wp2_with fail
        refine hn.mono ?_
        rintro e w1 ⟨rfl, k1, k2⟩
        go_wp2_with fail
        exact ⟨rfl, .no (by decide) k2⟩
end Go.Proofs.YtlfbnfphocpgeaaGreatDoor.Quo
namespace Go.Proofs.YtlfbnfphocpgeaaGreatDoor.Utf
open Go.RowKit Kit

/-! ### The table -/
def kL : Nat → Int
  | 0 => 0
  | 1 => 194
  | 2 => 224
  | 3 => 225
  | 4 => 237
  | 5 => 238
  | 6 => 240
  | 7 => 241
  | 8 => 244
  | _ => 0
def kM : Nat → Int
  | 0 => 127
  | 1 => 223
  | 2 => 224
  | 3 => 236
  | 4 => 237
  | 5 => 239
  | 6 => 240
  | 7 => 243
  | 8 => 244
  | _ => 0
def kS : Nat → Int
  | 0 => 1
  | 1 => 2
  | 2 => 3
  | 3 => 3
  | 4 => 3
  | 5 => 3
  | 6 => 4
  | 7 => 4
  | 8 => 4
  | _ => 0
def kK : Nat → Int
  | 0 => 0
  | 1 => 192
  | 2 => 224
  | 3 => 224
  | 4 => 224
  | 5 => 224
  | 6 => 240
  | 7 => 240
  | 8 => 240
  | _ => 0
def kA : Nat → Int
  | 0 => 0
  | 1 => 128
  | 2 => 160
  | 3 => 128
  | 4 => 128
  | 5 => 128
  | 6 => 144
  | 7 => 128
  | 8 => 128
  | _ => 0
def kB : Nat → Int
  | 0 => 0
  | 1 => 191
  | 2 => 191
  | 3 => 191
  | 4 => 159
  | 5 => 191
  | 6 => 191
  | 7 => 191
  | 8 => 143
  | _ => 0
def kcells : Array Value := #[.int .u8 0, .int .u8 127, .int .i64 1, .int .u8 0, .int .u8 0, .int .u8 0, .int .u8 194, .int .u8 223, .int .i64 2, .int .u8 192, .int .u8 128, .int .u8 191, .int .u8 224, .int .u8 224, .int .i64 3, .int .u8 224, .int .u8 160, .int .u8 191, .int .u8 225, .int .u8 236, .int .i64 3, .int .u8 224, .int .u8 128, .int .u8 191, .int .u8 237, .int .u8 237, .int .i64 3, .int .u8 224, .int .u8 128, .int .u8 159, .int .u8 238, .int .u8 239, .int .i64 3, .int .u8 224, .int .u8 128, .int .u8 191, .int .u8 240, .int .u8 240, .int .i64 4, .int .u8 240, .int .u8 144, .int .u8 191, .int .u8 241, .int .u8 243, .int .i64 4, .int .u8 240, .int .u8 128, .int .u8 191, .int .u8 244, .int .u8 244, .int .i64 4, .int .u8 240, .int .u8 128, .int .u8 143]
/-- The i-th row of the table, as a struct; the tenth: no row, all zero. -/
def kval (i : Nat) : Value := .agg #[.int .u8 (kL i), .int .u8 (kM i), .int .i64 (kS i), .int .u8 (kK i), .int .u8 (kA i), .int .u8 (kB i)]
/-- The row that a first byte belongs to. -/
def kd (b : Nat) : Nat :=
  if b < 128 then 0 else if b < 194 then 9 else if b < 224 then 1 else if b = 224 then 2 else if b < 237 then 3 else if b = 237 then 4 else if b < 240 then 5 else if b = 240 then 6 else if b < 244 then 7 else if b = 244 then 8 else 9
theorem nine {M : Nat → Prop} (h0 : M 0) (h1 : M 1) (h2 : M 2) (h3 : M 3) (h4 : M 4) (h5 : M 5) (h6 : M 6) (h7 : M 7) (h8 : M 8) : ∀ i, i < 9 → M i := by
  intro i hi
  match i, hi with
  | 0, _ => exact h0
  | 1, _ => exact h1
  | 2, _ => exact h2
  | 3, _ => exact h3
  | 4, _ => exact h4
  | 5, _ => exact h5
  | 6, _ => exact h6
  | 7, _ => exact h7
  | 8, _ => exact h8
theorem kd_hit {b i : Nat} (hi : i < 9) (h1 : kL i ≤ b) (h2 : (b : Int) ≤ kM i) : kd b = i := by
  revert h1 h2
  refine nine (M := fun i => kL i ≤ b → (b : Int) ≤ kM i → kd b = i) ?_ ?_ ?_ ?_ ?_ ?_ ?_ ?_ ?_ i hi
  · intro h1 h2
    have k1 : (0 : Int) ≤ b := h1
    have k2 : (b : Int) ≤ 127 := h2
    clear h1 h2
    unfold kd
    rw [if_pos (by omega)]
  · intro h1 h2
    have k1 : (194 : Int) ≤ b := h1
    have k2 : (b : Int) ≤ 223 := h2
    clear h1 h2
    unfold kd
    rw [if_neg (by omega), if_neg (by omega), if_pos (by omega)]
  · intro h1 h2
    have k1 : (224 : Int) ≤ b := h1
    have k2 : (b : Int) ≤ 224 := h2
    clear h1 h2
    unfold kd
    rw [if_neg (by omega), if_neg (by omega), if_neg (by omega), if_pos (by omega)]
  · intro h1 h2
    have k1 : (225 : Int) ≤ b := h1
    have k2 : (b : Int) ≤ 236 := h2
    clear h1 h2
    unfold kd
    rw [if_neg (by omega), if_neg (by omega), if_neg (by omega), if_neg (by omega), if_pos (by omega)]
  · intro h1 h2
    have k1 : (237 : Int) ≤ b := h1
    have k2 : (b : Int) ≤ 237 := h2
    clear h1 h2
    unfold kd
    rw [if_neg (by omega), if_neg (by omega), if_neg (by omega), if_neg (by omega), if_neg (by omega), if_pos (by omega)]
  · intro h1 h2
    have k1 : (238 : Int) ≤ b := h1
    have k2 : (b : Int) ≤ 239 := h2
    clear h1 h2
    unfold kd
    rw [if_neg (by omega), if_neg (by omega), if_neg (by omega), if_neg (by omega), if_neg (by omega), if_neg (by omega), if_pos (by omega)]
  · intro h1 h2
    have k1 : (240 : Int) ≤ b := h1
    have k2 : (b : Int) ≤ 240 := h2
    clear h1 h2
    unfold kd
    rw [if_neg (by omega), if_neg (by omega), if_neg (by omega), if_neg (by omega), if_neg (by omega), if_neg (by omega), if_neg (by omega), if_pos (by omega)]
  · intro h1 h2
    have k1 : (241 : Int) ≤ b := h1
    have k2 : (b : Int) ≤ 243 := h2
    clear h1 h2
    unfold kd
    rw [if_neg (by omega), if_neg (by omega), if_neg (by omega), if_neg (by omega), if_neg (by omega), if_neg (by omega), if_neg (by omega), if_neg (by omega), if_pos (by omega)]
  · intro h1 h2
    have k1 : (244 : Int) ≤ b := h1
    have k2 : (b : Int) ≤ 244 := h2
    clear h1 h2
    unfold kd
    rw [if_neg (by omega), if_neg (by omega), if_neg (by omega), if_neg (by omega), if_neg (by omega), if_neg (by omega), if_neg (by omega), if_neg (by omega), if_neg (by omega), if_pos (by omega)]
theorem kd_none {b : Nat} (hb : b < 256) (h : ∀ j, j < 9 → ¬ (kL j ≤ b ∧ (b : Int) ≤ kM j)) : kd b = 9 := by
  have h0 : ¬ ((0 : Int) ≤ b ∧ (b : Int) ≤ 127) := h 0 (by omega)
  have h1 : ¬ ((194 : Int) ≤ b ∧ (b : Int) ≤ 223) := h 1 (by omega)
  have h2 : ¬ ((224 : Int) ≤ b ∧ (b : Int) ≤ 224) := h 2 (by omega)
  have h3 : ¬ ((225 : Int) ≤ b ∧ (b : Int) ≤ 236) := h 3 (by omega)
  have h4 : ¬ ((237 : Int) ≤ b ∧ (b : Int) ≤ 237) := h 4 (by omega)
  have h5 : ¬ ((238 : Int) ≤ b ∧ (b : Int) ≤ 239) := h 5 (by omega)
  have h6 : ¬ ((240 : Int) ≤ b ∧ (b : Int) ≤ 240) := h 6 (by omega)
  have h7 : ¬ ((241 : Int) ≤ b ∧ (b : Int) ≤ 243) := h 7 (by omega)
  have h8 : ¬ ((244 : Int) ≤ b ∧ (b : Int) ≤ 244) := h 8 (by omega)
  clear h
  unfold kd
  by_cases c : b < 194
  · rw [if_neg (by omega), if_pos c]
  · rw [if_neg (by omega), if_neg (by omega), if_neg (by omega), if_neg (by omega), if_neg (by omega), if_neg (by omega), if_neg (by omega), if_neg (by omega), if_neg (by omega), if_neg (by omega)]
/-- The table lies in its variable. -/
def Laid (w : World) : Prop := ∃ t fr, w.heap[5]? = some (.cells kcells t fr)
theorem Laid.below {n : Nat} {w w' : World} (h : Laid w) (hB : Below n w w') (hn : 5 < n) : Laid w' := by
  obtain ⟨t, fr, e⟩ := h
  exact ⟨t, fr, (hB.block _ hn).trans e⟩
theorem Laid.lt {w : World} (h : Laid w) : 5 < w.heap.size := by
  obtain ⟨t, fr, e⟩ := h
  exact (Array.getElem?_eq_some_iff.1 e).1
theorem index_kinds (i : Nat) (hi : i < 9) : ∀ w, (Instr.index 227 (.agg kcells) (.int .i64 (i : Int))).run Tryz.prog w = .ok (kval i) w :=
  nine (M := fun i => ∀ w, (Instr.index 227 (.agg kcells) (.int .i64 (i : Int))).run Tryz.prog w = .ok (kval i) w)
    (fun _ => by kernel_rfl) (fun _ => by kernel_rfl) (fun _ => by kernel_rfl) (fun _ => by kernel_rfl) (fun _ => by kernel_rfl) (fun _ => by kernel_rfl) (fun _ => by kernel_rfl) (fun _ => by kernel_rfl) (fun _ => by kernel_rfl) i hi
set_option maxHeartbeats 1000000 in
theorem kindOf_any {w : World} {b : Nat} (hb : b < 256) (hl : Laid w) :
    Calls Tryz.prog 196 #[.int .u8 b] w fun e w' => e = .returned (kval (kd b)) ∧ Below w.heap.size w w' := by
  obtain ⟨t, fr, hg⟩ := hl
  have hlt : 5 < w.heap.size := (Array.getElem?_eq_some_iff.1 hg).1
  have hg1 : (w.alloc (.cells #[.int .u8 0, .int .u8 0, .int .i64 0, .int .u8 0, .int .u8 0, .int .u8 0] 211)).heap[5]? = some (.cells kcells t fr) := ((Below.heap_alloc _ _ _ hlt)).trans hg
  go_enter Tryz.func196, Tryz.ntmps196
  go_wp2_with (refine wpList_load_row rfl 227 _ rfl 5 rfl t _ fr _ hg1 Tryz.underlying227 rfl (by kernel_rfl) ?_)
  go_loopw [6] (fun i wr => ∃ k : Nat, k ≤ 9 ∧ i = .int .i64 k ∧ (∀ j, j < k → ¬ (kL j ≤ b ∧ (b : Int) ≤ kM j)) ∧
      wr.heap[w.heap.size]? = some (.cells #[.int .u8 0, .int .u8 0, .int .i64 0, .int .u8 0, .int .u8 0, .int .u8 0] 211 (0, 0)) ∧ Below w.heap.size w wr) (fun i _ => 9 - (intOf i).toNat)
  case atStart =>
    refine ⟨0, by omega, rfl, fun j hj => by omega, ?_, ?_⟩
    · exact World.alloc_heap_new w _
    · exact (Below.refl _ w).alloc (Nat.le_refl _) _
  case round =>
    obtain ⟨k, hk, rfl, hno, hB, hbel⟩ := hrel
    have c0 : wr.cell? ⟨w.heap.size, 0, none⟩ = some (.int .u8 0) := cell_of hB 0
    have c1 : wr.cell? ⟨w.heap.size, 1, none⟩ = some (.int .u8 0) := cell_of hB 1
    have c2 : wr.cell? ⟨w.heap.size, 2, none⟩ = some (.int .i64 0) := cell_of hB 2
    have c3 : wr.cell? ⟨w.heap.size, 3, none⟩ = some (.int .u8 0) := cell_of hB 3
    have c4 : wr.cell? ⟨w.heap.size, 4, none⟩ = some (.int .u8 0) := cell_of hB 4
    have c5 : wr.cell? ⟨w.heap.size, 5, none⟩ = some (.int .u8 0) := cell_of hB 5
    have hx := lt_of_heap hB
    have f0 := free_of hB 0
    have f1 := free_of hB 1
    have f2 := free_of hB 2
    have f3 := free_of hB 3
    have f4 := free_of hB 4
    have f5 := free_of hB 5
    by_cases h9 : k < 9
    · have hix := index_kinds k h9
      unfold kval at hix
      by_cases h1 : kL k ≤ b
      · by_cases h2 : (b : Int) ≤ kM k
        · have hk9 := kd_hit h9 h1 h2
          go_wp2_with fail
          refine bodyPost_ret (v := kval k) (results_cell_row (g := w.heap.size) (t := 211) (fr := (0, 0)) rfl _ _ _ _ rfl ?_ Tryz.underlying211 rfl (by kernel_rfl)) rfl ⟨?_, ?_⟩
          · exact new_of (set_of (set_of (set_of (set_of (set_of (set_of hB 0 _) 1 _) 2 _) 3 _) 4 _) 5 _) _
          · rw [hk9]
          · exact ((((((hbel.setCell (p := ⟨w.heap.size, 0, none⟩) (Nat.le_refl _) _).setCell (p := ⟨w.heap.size, 1, none⟩) (Nat.le_refl _) _).setCell (p := ⟨w.heap.size, 2, none⟩) (Nat.le_refl _) _).setCell (p := ⟨w.heap.size, 3, none⟩) (Nat.le_refl _) _).setCell (p := ⟨w.heap.size, 4, none⟩) (Nat.le_refl _) _).setCell (p := ⟨w.heap.size, 5, none⟩) (Nat.le_refl _) _).alloc (by simp; omega) _
        · go_wp2_with fail
          go_roundw
          case rel => exact ⟨k + 1, by omega, by go_num, fun j hj => (by rcases (show j < k ∨ j = k by omega) with h | rfl; exact hno j h; omega), new_of hB _, hbel.alloc (by omega) _⟩
          case measure => simp [intOf]; omega
      · go_wp2_with fail
        go_roundw
        case rel => exact ⟨k + 1, by omega, by go_num, fun j hj => (by rcases (show j < k ∨ j = k by omega) with h | rfl; exact hno j h; omega), new_of hB _, hbel.alloc (by omega) _⟩
        case measure => simp [intOf]; omega
    · obtain rfl : k = 9 := by omega
      have hk9 := kd_none hb hno
      go_wp2_with fail
      refine bodyPost_ret (v := kval 9) (results_cell_row (g := w.heap.size) (t := 211) (fr := (0, 0)) rfl _ _ _ _ rfl ?_ Tryz.underlying211 rfl (by kernel_rfl)) rfl ⟨?_, ?_⟩
      · exact set_of (set_of (set_of (set_of (set_of (set_of hB 0 _) 1 _) 2 _) 3 _) 4 _) 5 _
      · rw [hk9]
      · exact (((((hbel.setCell (p := ⟨w.heap.size, 0, none⟩) (Nat.le_refl _) _).setCell (p := ⟨w.heap.size, 1, none⟩) (Nat.le_refl _) _).setCell (p := ⟨w.heap.size, 2, none⟩) (Nat.le_refl _) _).setCell (p := ⟨w.heap.size, 3, none⟩) (Nat.le_refl _) _).setCell (p := ⟨w.heap.size, 4, none⟩) (Nat.le_refl _) _).setCell (p := ⟨w.heap.size, 5, none⟩) (Nat.le_refl _) _
end Go.Proofs.YtlfbnfphocpgeaaGreatDoor.Utf
namespace Go.Proofs.YtlfbnfphocpgeaaGreatDoor.Utf
open Go.RowKit Kit
/-- What has been put together in front of the i-th byte. -/
def acc (l : List UInt8) (m : Nat) : Nat → Nat
  | 0 => 0
  | 1 => nb l 0 - m
  | i + 2 => acc l m (i + 1) * 64 + nb l (i + 1) % 64
theorem acc_lt (l : List UInt8) (m : Nat) : ∀ i, acc l m (i + 1) < 256 * 64 ^ i
  | 0 => by have := nb_lt l 0; simp [acc]; omega
  | i + 1 => by
    have := acc_lt l m i
    simp only [acc, Nat.pow_succ]
    omega
/-- decode's answer, told by the first byte's row: size z, mark m, the second byte from a to b. -/
def decS (l : List UInt8) (z m a b : Nat) : Nat × Nat :=
  if z = 0 ∨ l.length < z then (0, 0)
  else if 1 < z ∧ (nb l 1 < a ∨ b < nb l 1) then (0, 0)
  else if ∃ i, i < z ∧ 1 ≤ i ∧ nb l i / 64 ≠ 2 then (0, 0)
  else (acc l m z, z)
theorem and192 : ∀ x : Nat, x < 256 → bits .and .u8 (x : Int) 192 = (((x / 64 : Nat) * 64 : Nat) : Int) := by decide +kernel
theorem and63 : ∀ x : Nat, x < 256 → bits .and .u8 (x : Int) 63 = ((x % 64 : Nat) : Int) := by decide +kernel
theorem or_low (c x : Nat) (hc : c < 1099511627776) : bits .or .i64 ((c : Int) * 64) ((x : Int) % 64) = ((c * 64 + x % 64 : Nat) : Int) := by
  have e1 : (c : Int) * 64 = ((c * 64 : Nat) : Int) := by omega
  have e2 : (x : Int) % 64 = ((x % 64 : Nat) : Int) := by omega
  rw [e1, e2]
  have h1 : (BitVec.ofInt 64 ((c * 64 : Nat) : Int)).toNat = c * 64 := by
    rw [BitVec.ofInt_natCast, BitVec.toNat_ofNat]; exact Nat.mod_eq_of_lt (by omega)
  have h2 : (BitVec.ofInt 64 ((x % 64 : Nat) : Int)).toNat = x % 64 := by
    rw [BitVec.ofInt_natCast, BitVec.toNat_ofNat]; exact Nat.mod_eq_of_lt (by omega)
  have h3 : c * 64 ||| x % 64 = c * 64 + x % 64 := by
    have := Nat.shiftLeft_add_eq_or_of_lt (b := x % 64) (i := 6) (by omega) c
    rw [Nat.shiftLeft_eq] at this
    exact this.symm
  show IntKind.i64.wrap ((BitVec.ofInt 64 ((c * 64 : Nat) : Int) ||| BitVec.ofInt 64 ((x % 64 : Nat) : Int)).toNat : Int) = _
  rw [BitVec.toNat_or, h1, h2, h3]
  simp only [IntKind.wrap, IntKind.signed, IntKind.bits]
  simp
  omega
theorem decS_cut {l : List UInt8} {z m a b k : Nat} (hz : ¬ (z = 0 ∨ l.length < z)) (h2 : ¬ (1 < z ∧ (nb l 1 < a ∨ b < nb l 1))) (h1 : 1 ≤ k) (hk : k < z) (ct : ¬ nb l k / 64 = 2) : decS l z m a b = (0, 0) := by
  unfold decS
  rw [if_neg hz, if_neg h2, if_pos ⟨k, hk, h1, ct⟩]
theorem decS_ok {l : List UInt8} {z m a b : Nat} (hz : ¬ (z = 0 ∨ l.length < z)) (h2 : ¬ (1 < z ∧ (nb l 1 < a ∨ b < nb l 1))) (h : ∀ j, 1 ≤ j → j < z → nb l j / 64 = 2) : decS l z m a b = (acc l m z, z) := by
  unfold decS
  rw [if_neg hz, if_neg h2, if_neg (fun ⟨i, i1, i2, i3⟩ => i3 (h i i2 i1))]
theorem acc_step {l : List UInt8} {m k : Nat} (hk : 1 ≤ k) (hb : acc l m k < 1099511627776) :
    Value.int .i64 (bits .or .i64 ((acc l m k : Int) * 64) ((nb l k : Int) % 64)) = .int .i64 (acc l m (k + 1)) := by
  match k, hk, hb with
  | k + 1, _, hb => rw [or_low _ _ hb]; rfl
set_option maxHeartbeats 4000000 in
theorem decode_walk {w : World} {s : ByteArray} {L M : Int} {z m a b : Nat} (hs : 0 < s.size) (hz : z ≤ 4) (hm : m ≤ nb s.data.toList 0)
    (hk : Calls Tryz.prog 196 #[.int .u8 (nb s.data.toList 0)] w fun e w' => e = .returned (.agg #[.int .u8 L, .int .u8 M, .int .i64 z, .int .u8 m, .int .u8 a, .int .u8 b]) ∧ Below w.heap.size w w') :
    Calls Tryz.prog 170 #[.string s] w fun e w' => e = .returned (.tuple #[.int .i64 (decS s.data.toList z m a b).1, .int .i64 (decS s.data.toList z m a b).2]) ∧ Below w.heap.size w w' := by
  have h0 : (0 : Int) < (s.size : Int) := by omega
  have hx0 := at_nb s 0 hs
  have hlen : s.data.toList.length = s.size := by simp
  by_cases c0 : z = 0
  · have e : decS s.data.toList z m a b = (0, 0) := by unfold decS; rw [if_pos (.inl c0)]
    rw [e]
    subst c0
    go_enter Tryz.func170, Tryz.ntmps170
    go_wp2_with fail
    refine hk.mono ?_
    rintro e w1 ⟨rfl, b1⟩
    go_wp2_with fail
    go_ret2
    exact ⟨rfl, b1.alloc b1.size _⟩
  by_cases c1 : s.size < z
  · have e : decS s.data.toList z m a b = (0, 0) := by unfold decS; rw [if_pos (.inr (by omega))]
    rw [e]
    go_enter Tryz.func170, Tryz.ntmps170
    go_wp2_with fail
    refine hk.mono ?_
    rintro e w1 ⟨rfl, b1⟩
    go_wp2_with fail
    go_ret2
    exact ⟨rfl, b1.alloc b1.size _⟩
  by_cases c2 : 1 < z ∧ (nb s.data.toList 1 < a ∨ b < nb s.data.toList 1)
  · have e : decS s.data.toList z m a b = (0, 0) := by unfold decS; rw [if_neg (by omega), if_pos c2]
    rw [e]
    obtain ⟨z1, c3⟩ := c2
    have hx1 := at_nb s 1 (by omega)
    have h1 : (1 : Int) < (s.size : Int) := by omega
    have z1' : (1 : Int) < (z : Int) := by omega
    by_cases c4 : nb s.data.toList 1 < a
    · have c4' : (nb s.data.toList 1 : Int) < (a : Int) := by omega
      clear c3
      go_enter Tryz.func170, Tryz.ntmps170
      go_wp2_with fail
      refine hk.mono ?_
      rintro e w1 ⟨rfl, b1⟩
      go_wp2_with fail
      go_quiet (fail)
      go_wp2_with fail
      go_ret2
      exact ⟨rfl, below_drewN (b1.alloc b1.size _) _⟩
    · have c5 : (b : Int) < (nb s.data.toList 1 : Int) := by omega
      have c6 : decide ((nb s.data.toList 1 : Int) < a) = false := by simp; omega
      clear c3
      go_enter Tryz.func170, Tryz.ntmps170
      go_wp2_with fail
      refine hk.mono ?_
      rintro e w1 ⟨rfl, b1⟩
      go_wp2_with fail
      go_quiet (fail)
      go_wp2_with fail
      go_ret2
      exact ⟨rfl, below_drewN (b1.alloc b1.size _) _⟩
  have key : z = 1 ∨ (1 < z ∧ a ≤ nb s.data.toList 1 ∧ nb s.data.toList 1 ≤ b) := by omega
  rcases key with c3 | ⟨z1, c3, c4⟩
  · subst c3
    have e : decS s.data.toList 1 m a b = (nb s.data.toList 0 - m, 1) := by unfold decS; rw [if_neg (by omega), if_neg (by omega), if_neg (fun ⟨i, h1, h2, _⟩ => by omega)]; rfl
    rw [e]
    go_enter Tryz.func170, Tryz.ntmps170
    go_wp2_with fail
    refine hk.mono ?_
    rintro e w1 ⟨rfl, b1⟩
    go_wp2_with fail
    go_quiet (fail)
    go_wp2_with fail
    go_quiet (fail)
    go_wp2_with fail
    go_loopw [2, 5] (fun c i wr => ∃ k : Nat, 1 ≤ k ∧ k ≤ 1 ∧ c = .int .i64 (acc s.data.toList m k) ∧ i = .int .i64 k ∧ (∀ j, 1 ≤ j → j < k → nb s.data.toList j / 64 = 2) ∧
        wr.heap[w1.heap.size]? = some (.cells #[.int .u8 L, .int .u8 M, .int .i64 1, .int .u8 m, .int .u8 a, .int .u8 b] 211 (0, 0)) ∧ Below w.heap.size w wr) (fun _ i _ => 1 - (intOf i).toNat)
    case atStart =>
      refine ⟨1, by omega, by omega, ?_, rfl, fun j h1 h2 => by omega, World.alloc_heap_new w1 _, below_drewN (below_drewN (b1.alloc b1.size _) _) _⟩
      have := nb_lt s.data.toList 0
      simp only [acc, Value.int.injEq, true_and]
      omega
    case round =>
      obtain ⟨k, hk1, hkz, rfl, rfl, hcts, hB, hbel⟩ := hrel
      obtain rfl : k = 1 := by omega
      have c2 : wr.cell? ⟨w1.heap.size, 2, none⟩ = some (.int .i64 1) := cell_of hB 2
      go_wp2_with fail
      go_quiet (fail)
      go_wp2_with fail
      go_ret2
      exact ⟨rfl, below_drewN hbel _⟩
  · have hx1 := at_nb s 1 (by omega)
    have h1 : (1 : Int) < (s.size : Int) := by omega
    have c6 : decide ((nb s.data.toList 1 : Int) < a) = false := by simp; omega
    have c7 : decide ((b : Int) < nb s.data.toList 1) = false := by simp; omega
    have z1' : (1 : Int) < (z : Int) := by omega
    go_enter Tryz.func170, Tryz.ntmps170
    go_wp2_with fail
    refine hk.mono ?_
    rintro e w1 ⟨rfl, b1⟩
    go_wp2_with fail
    go_quiet (fail)
    go_wp2_with fail
    go_quiet (fail)
    go_wp2_with fail
    go_loopw [2, 5] (fun c i wr => ∃ k : Nat, 1 ≤ k ∧ k ≤ z ∧ c = .int .i64 (acc s.data.toList m k) ∧ i = .int .i64 k ∧ (∀ j, 1 ≤ j → j < k → nb s.data.toList j / 64 = 2) ∧
        wr.heap[w1.heap.size]? = some (.cells #[.int .u8 L, .int .u8 M, .int .i64 (z : Int), .int .u8 m, .int .u8 a, .int .u8 b] 211 (0, 0)) ∧ Below w.heap.size w wr) (fun _ i _ => z - (intOf i).toNat)
    case atStart =>
      refine ⟨1, by omega, by omega, ?_, rfl, fun j h1 h2 => by omega, World.alloc_heap_new w1 _, below_drewN (below_drewN (b1.alloc b1.size _) _) _⟩
      have := nb_lt s.data.toList 0
      simp only [acc, Value.int.injEq, true_and]
      omega
    case round =>
      obtain ⟨k, hk1, hkz, rfl, rfl, hcts, hB, hbel⟩ := hrel
      have c2 : wr.cell? ⟨w1.heap.size, 2, none⟩ = some (.int .i64 (z : Int)) := cell_of hB 2
      have hx := lt_of_heap hB
      by_cases hlt : k < z
      · have hxk := at_nb s k (by omega)
        have hks : (k : Int) < (s.size : Int) := by omega
        have hlt' : (k : Int) < (z : Int) := by omega
        have e2 := and63 _ (nb_lt s.data.toList k)
        by_cases ct : nb s.data.toList k / 64 = 2
        · have e1 : bits .and .u8 (nb s.data.toList k : Int) 192 = 128 := by rw [and192 _ (nb_lt _ _), ct]; rfl
          have hb4 : acc s.data.toList m k < 1099511627776 := by
            have h3 : k - 1 + 1 = k := by omega
            have h4 := acc_lt s.data.toList m (k - 1)
            rw [h3] at h4
            have h5 : 64 ^ (k - 1) ≤ 64 ^ 3 := Nat.pow_le_pow_right (by omega) (by omega)
            omega
          go_wp2_with fail
          go_roundw
          case rel =>
            refine ⟨k + 1, by omega, by omega, ?_, by go_num, fun j j1 j2 => ?_, hB, hbel⟩
            · exact acc_step hk1 hb4
            · rcases (show j < k ∨ j = k by omega) with h | rfl
              · exact hcts j j1 h
              · exact ct
          case measure => simp [intOf]; omega
        · obtain ⟨y, e1, hy⟩ : ∃ y : Int, bits .and .u8 (nb s.data.toList k : Int) 192 = y ∧ ¬ y = 128 := ⟨_, and192 _ (nb_lt _ _), by omega⟩
          go_wp2_with fail
          go_ret2
          exact ⟨by rw [decS_cut (by omega) (by omega) hk1 hlt ct]; rfl, hbel⟩
      · have hkz' : (k : Int) = (z : Int) := by omega
        have e : decS s.data.toList z m a b = (acc s.data.toList m k, k) := by
          rw [decS_ok (by omega) (by omega) (fun j h1 h2 => hcts j h1 (by omega)), show z = k by omega]
        have hge : decide ((k : Int) < (z : Int)) = false := by simp; omega
        go_wp2_with fail
        go_quiet (fail)
        go_wp2_with fail
        go_ret2
        exact ⟨by rw [e, ← hkz']; rfl, below_drewN hbel _⟩
theorem kd_cases {x : Nat} (hx : x < 256) :
    (x < 128 ∧ kd x = 0) ∨ (128 ≤ x ∧ (x < 194 ∨ 244 < x) ∧ kd x = 9) ∨ (194 ≤ x ∧ x < 224 ∧ kd x = 1) ∨ (x = 224 ∧ kd x = 2) ∨ (225 ≤ x ∧ x < 237 ∧ kd x = 3) ∨ (x = 237 ∧ kd x = 4) ∨
    (238 ≤ x ∧ x < 240 ∧ kd x = 5) ∨ (x = 240 ∧ kd x = 6) ∨ (241 ≤ x ∧ x < 244 ∧ kd x = 7) ∨ (x = 244 ∧ kd x = 8) := by
  revert x
  decide +kernel
/-- What a row asks of the bytes. -/
def RowOk (l : List UInt8) (z a b : Nat) : Prop := z ≤ l.length ∧ (1 < z → a ≤ nb l 1 ∧ nb l 1 ≤ b) ∧ ∀ j, 1 ≤ j → j < z → nb l j / 64 = 2
theorem decS_yes {l : List UInt8} {z m a b : Nat} (hz : z ≠ 0) (h : RowOk l z a b) : decS l z m a b = (acc l m z, z) := by
  obtain ⟨h1, h2, h3⟩ := h
  exact decS_ok (by omega) (by omega) h3
theorem decS_no {l : List UInt8} {z m a b : Nat} (h : ¬ RowOk l z a b) : decS l z m a b = (0, 0) := by
  unfold decS
  by_cases c1 : z = 0 ∨ l.length < z
  · rw [if_pos c1]
  by_cases c2 : 1 < z ∧ (nb l 1 < a ∨ b < nb l 1)
  · rw [if_neg c1, if_pos c2]
  by_cases c3 : ∃ i, i < z ∧ 1 ≤ i ∧ nb l i / 64 ≠ 2
  · rw [if_neg c1, if_neg c2, if_pos c3]
  · exact absurd ⟨by omega, by omega, fun j h1 h2 => by
      by_cases e : nb l j / 64 = 2
      · exact e
      · exact absurd ⟨j, h2, h1, e⟩ c3⟩ h
theorem upto2 {M : Nat → Prop} : (∀ j, 1 ≤ j → j < 2 → M j) ↔ M 1 := ⟨fun h => h 1 (by omega) (by omega), fun h j h1 h2 => by
  obtain rfl : j = 1 := by omega
  exact h⟩
theorem upto3 {M : Nat → Prop} : (∀ j, 1 ≤ j → j < 3 → M j) ↔ M 1 ∧ M 2 := ⟨fun h => ⟨h 1 (by omega) (by omega), h 2 (by omega) (by omega)⟩, fun h j h1 h2 => by
  rcases (show j = 1 ∨ j = 2 by omega) with rfl | rfl
  · exact h.1
  · exact h.2⟩
theorem upto4 {M : Nat → Prop} : (∀ j, 1 ≤ j → j < 4 → M j) ↔ M 1 ∧ M 2 ∧ M 3 := ⟨fun h => ⟨h 1 (by omega) (by omega), h 2 (by omega) (by omega), h 3 (by omega) (by omega)⟩, fun h j h1 h2 => by
  rcases (show j = 1 ∨ j = 2 ∨ j = 3 by omega) with rfl | rfl | rfl
  · exact h.1
  · exact h.2.1
  · exact h.2.2⟩
/-- The rows' numbers, and what decode answers by them: the scalar. -/
theorem dec_one (l : List UInt8) (hl : 0 < l.length) : ∃ z m a b : Nat, kval (kd (nb l 0)) = .agg #[.int .u8 (kL (kd (nb l 0))), .int .u8 (kM (kd (nb l 0))), .int .i64 z, .int .u8 m, .int .u8 a, .int .u8 b] ∧ z ≤ 4 ∧ m ≤ nb l 0 ∧ decS l z m a b = one l := by
  have b0 := nb_lt l 0
  have b1 := nb_lt l 1
  have b2 := nb_lt l 2
  have b3 := nb_lt l 3
  rcases kd_cases b0 with ⟨h, e⟩ | ⟨h, h', e⟩ | ⟨h, h', e⟩ | ⟨h, e⟩ | ⟨h, h', e⟩ | ⟨h, e⟩ | ⟨h, h', e⟩ | ⟨h, e⟩ | ⟨h, h', e⟩ | ⟨h, e⟩ <;> rw [e]
  · refine ⟨1, 0, 0, 0, rfl, by omega, by omega, ?_⟩
    rw [decS_yes (by omega) ⟨hl, by omega, by omega⟩]
    unfold one
    rw [if_pos ⟨hl, h⟩]
    rfl
  · refine ⟨0, 0, 0, 0, rfl, by omega, by omega, ?_⟩
    have : decS l 0 0 0 0 = (0, 0) := by unfold decS; rw [if_pos (.inl rfl)]
    rw [this]
    unfold one
    rw [if_neg (by omega), if_neg (by omega), if_neg (by omega), if_neg (by omega)]
  · refine ⟨2, 192, 128, 191, rfl, by omega, by omega, ?_⟩
    by_cases c : RowOk l 2 128 191
    · rw [decS_yes (by omega) c]
      unfold RowOk at c
      rw [upto2] at c
      unfold one
      rw [if_neg (by omega), if_pos (by omega)]
      simp only [acc, Prod.mk.injEq, and_true, Nat.zero_add]
      omega
    · rw [decS_no c]
      unfold RowOk at c
      rw [upto2] at c
      unfold one
      rw [if_neg (by omega), if_neg (by omega), if_neg (by omega), if_neg (by omega)]
  · refine ⟨3, 224, 160, 191, rfl, by omega, by omega, ?_⟩
    by_cases c : RowOk l 3 160 191
    · rw [decS_yes (by omega) c]
      unfold RowOk at c
      rw [upto3] at c
      unfold one
      rw [if_neg (by omega), if_neg (by omega), if_pos (by omega)]
      simp only [acc, Prod.mk.injEq, and_true, Nat.zero_add, Nat.reduceAdd]
      omega
    · rw [decS_no c]
      unfold RowOk at c
      rw [upto3] at c
      unfold one
      rw [if_neg (by omega), if_neg (by omega), if_neg (by omega), if_neg (by omega)]
  · refine ⟨3, 224, 128, 191, rfl, by omega, by omega, ?_⟩
    by_cases c : RowOk l 3 128 191
    · rw [decS_yes (by omega) c]
      unfold RowOk at c
      rw [upto3] at c
      unfold one
      rw [if_neg (by omega), if_neg (by omega), if_pos (by omega)]
      simp only [acc, Prod.mk.injEq, and_true, Nat.zero_add, Nat.reduceAdd]
      omega
    · rw [decS_no c]
      unfold RowOk at c
      rw [upto3] at c
      unfold one
      rw [if_neg (by omega), if_neg (by omega), if_neg (by omega), if_neg (by omega)]
  · refine ⟨3, 224, 128, 159, rfl, by omega, by omega, ?_⟩
    by_cases c : RowOk l 3 128 159
    · rw [decS_yes (by omega) c]
      unfold RowOk at c
      rw [upto3] at c
      unfold one
      rw [if_neg (by omega), if_neg (by omega), if_pos (by omega)]
      simp only [acc, Prod.mk.injEq, and_true, Nat.zero_add, Nat.reduceAdd]
      omega
    · rw [decS_no c]
      unfold RowOk at c
      rw [upto3] at c
      unfold one
      rw [if_neg (by omega), if_neg (by omega), if_neg (by omega), if_neg (by omega)]
  · refine ⟨3, 224, 128, 191, rfl, by omega, by omega, ?_⟩
    by_cases c : RowOk l 3 128 191
    · rw [decS_yes (by omega) c]
      unfold RowOk at c
      rw [upto3] at c
      unfold one
      rw [if_neg (by omega), if_neg (by omega), if_pos (by omega)]
      simp only [acc, Prod.mk.injEq, and_true, Nat.zero_add, Nat.reduceAdd]
      omega
    · rw [decS_no c]
      unfold RowOk at c
      rw [upto3] at c
      unfold one
      rw [if_neg (by omega), if_neg (by omega), if_neg (by omega), if_neg (by omega)]
  · refine ⟨4, 240, 144, 191, rfl, by omega, by omega, ?_⟩
    by_cases c : RowOk l 4 144 191
    · rw [decS_yes (by omega) c]
      unfold RowOk at c
      rw [upto4] at c
      unfold one
      rw [if_neg (by omega), if_neg (by omega), if_neg (by omega), if_pos (by omega)]
      simp only [acc, Prod.mk.injEq, and_true, Nat.zero_add, Nat.reduceAdd]
      omega
    · rw [decS_no c]
      unfold RowOk at c
      rw [upto4] at c
      unfold one
      rw [if_neg (by omega), if_neg (by omega), if_neg (by omega), if_neg (by omega)]
  · refine ⟨4, 240, 128, 191, rfl, by omega, by omega, ?_⟩
    by_cases c : RowOk l 4 128 191
    · rw [decS_yes (by omega) c]
      unfold RowOk at c
      rw [upto4] at c
      unfold one
      rw [if_neg (by omega), if_neg (by omega), if_neg (by omega), if_pos (by omega)]
      simp only [acc, Prod.mk.injEq, and_true, Nat.zero_add, Nat.reduceAdd]
      omega
    · rw [decS_no c]
      unfold RowOk at c
      rw [upto4] at c
      unfold one
      rw [if_neg (by omega), if_neg (by omega), if_neg (by omega), if_neg (by omega)]
  · refine ⟨4, 240, 128, 143, rfl, by omega, by omega, ?_⟩
    by_cases c : RowOk l 4 128 143
    · rw [decS_yes (by omega) c]
      unfold RowOk at c
      rw [upto4] at c
      unfold one
      rw [if_neg (by omega), if_neg (by omega), if_neg (by omega), if_pos (by omega)]
      simp only [acc, Prod.mk.injEq, and_true, Nat.zero_add, Nat.reduceAdd]
      omega
    · rw [decS_no c]
      unfold RowOk at c
      rw [upto4] at c
      unfold one
      rw [if_neg (by omega), if_neg (by omega), if_neg (by omega), if_neg (by omega)]
theorem decode_any {w : World} {s : ByteArray} (hs : 0 < s.size) (hl : Laid w) :
    Calls Tryz.prog 170 #[.string s] w fun e w' => e = .returned (.tuple #[.int .i64 (one s.data.toList).1, .int .i64 (one s.data.toList).2]) ∧ Below w.heap.size w w' := by
  obtain ⟨z, m, a, b, hk, hz, hm, he⟩ := dec_one s.data.toList (by simpa using hs)
  have h := kindOf_any (nb_lt s.data.toList 0) hl
  rw [hk] at h
  rw [← he]
  exact decode_walk hs hz hm h
end Go.Proofs.YtlfbnfphocpgeaaGreatDoor.Utf
namespace Go.Proofs.YtlfbnfphocpgeaaGreatDoor.Utf
open Go.RowKit Kit
set_option maxHeartbeats 1000000 in
theorem bad_any {w : World} {s : ByteArray} (hs : s.size < 4611686018427387904) (hl : Laid w) :
    Calls Tryz.prog 146 #[.string s] w fun e w' => e = .returned (.int .i64 (badI s.data.toList)) ∧ Below w.heap.size w w' := by
  have hlen : s.data.toList.length = s.size := by simp
  go_enter Tryz.func146, Tryz.ntmps146
  go_wp2_with fail
  go_loopw [3] (fun i wr => ∃ k : Nat, k ≤ s.size ∧ i = .int .i64 k ∧ (scan k (s.data.toList.drop k)).2 = bad s.data.toList ∧ Below w.heap.size w wr) (fun i _ => s.size - (intOf i).toNat)
  case atStart => exact ⟨0, Nat.zero_le _, rfl, rfl, Below.refl _ _⟩
  case round =>
    obtain ⟨k, hk, rfl, hsc, hbel⟩ := hrel
    have hlr := hl.below hbel hl.lt
    by_cases hlt : k < s.size
    · have hks : (k : Int) < (s.size : Int) := by omega
      have hx : 0 < (s.extract k s.size).size := by simp; omega
      have hd := decode_any hx hlr
      rw [extract_rest] at hd
      rcases scan_at (l := s.data.toList) (by omega : k < s.data.toList.length) with ⟨h0, hr⟩ | ⟨h0, h1, h2, hr⟩
      · rw [hr] at hsc
        go_wp2_with fail
        refine hd.mono ?_
        rintro e w1 ⟨rfl, b1⟩
        go_wp2_with fail
        go_ret
        exact ⟨by rw [badI, ← hsc]; rfl, hbel.trans (b1.mono hbel.size)⟩
      · rw [hr] at hsc
        go_wp2_with fail
        refine hd.mono ?_
        rintro e w1 ⟨rfl, b1⟩
        go_wp2_with fail
        go_roundw
        case rel => exact ⟨k + (one (s.data.toList.drop k)).2, by omega, by go_num, hsc, hbel.trans (b1.mono hbel.size)⟩
        case measure => simp [intOf]; omega
    · obtain rfl : k = s.size := by omega
      go_wp2_with fail
      go_ret
      have e : s.data.toList.drop s.size = [] := List.drop_eq_nil_of_le (by omega)
      rw [e, scan_nil] at hsc
      exact ⟨by rw [badI, ← hsc]; rfl, hbel⟩
theorem valid_any {w : World} {s : ByteArray} (hs : s.size < 4611686018427387904) (hl : Laid w) :
    Calls Tryz.prog 112 #[.string s] w fun e w' => e = .returned (.bool (decide (badI s.data.toList < 0))) ∧ Below w.heap.size w w' := by
  have hb := bad_any hs hl
  go_enter Tryz.func112, Tryz.ntmps112
  go_wp2_with fail
  refine hb.mono ?_
  rintro e w1 ⟨rfl, b1⟩
  go_wp2_with fail
  go_ret
  exact ⟨rfl, b1⟩
end Go.Proofs.YtlfbnfphocpgeaaGreatDoor.Utf
namespace Go.Proofs.YtlfbnfphocpgeaaGreatDoor.Utf
open Go.RowKit Kit
theorem utf8_encode {c : Nat} (hc : Scalar c) : Utf8.encode (c : Int) = ⟨(enc c).toArray⟩ := by
  have hc' := hc
  unfold Scalar at hc'
  have hv : Utf8.valid (c : Int) = true := by
    simp [Utf8.valid]; omega
  unfold Utf8.encode enc encN
  rw [hv]
  simp only [if_true, Int.toNat_natCast]
  split
  · rfl
  split
  · rfl
  split <;> rfl
theorem put_any {w : World} {c : Int} (h1 : -9223372036854775808 ≤ c) (h2 : c ≤ 9223372036854775807) :
    Calls Tryz.prog 154 #[.int .i64 c] w fun e w' => e = .returned (.tuple #[.string ⟨(putL c).toArray⟩, .bool (decide (0 ≤ c ∧ c ≤ 1114111 ∧ (c < 55296 ∨ 57343 < c)))]) ∧ w = w' := by
  by_cases hc : 0 ≤ c ∧ c ≤ 1114111 ∧ (c < 55296 ∨ 57343 < c)
  · obtain ⟨n, rfl⟩ := Int.eq_ofNat_of_zero_le hc.1
    have hsc : Scalar n := by unfold Scalar; omega
    have e : putL (n : Int) = enc n := by unfold putL; rw [if_pos hc, Int.toNat_natCast]
    rw [e, ← utf8_encode hsc, decide_eq_true hc]
    obtain ⟨c1, c2, c3⟩ := hc
    have k1 : decide ((n : Int) < 0) = false := by simp
    have k2 : decide ((1114111 : Int) < n) = false := by simp; omega
    by_cases c4 : (55296 : Int) ≤ n
    · have k3 : decide ((n : Int) ≤ 57343) = false := by simp; omega
      go_enter Tryz.func154, Tryz.ntmps154
      go_wp2_with fail
      go_ret2
      exact ⟨rfl, rfl⟩
    · have k3 : decide ((55296 : Int) ≤ n) = false := by simp; omega
      go_enter Tryz.func154, Tryz.ntmps154
      go_wp2_with fail
      go_ret2
      exact ⟨rfl, rfl⟩
  · have e : putL c = [] := by unfold putL; rw [if_neg hc]
    rw [e, decide_eq_false hc]
    by_cases c1 : c < 0
    · go_enter Tryz.func154, Tryz.ntmps154
      go_wp2_with fail
      go_ret2
      exact ⟨rfl, rfl⟩
    by_cases c2 : 1114111 < c
    · go_enter Tryz.func154, Tryz.ntmps154
      go_wp2_with fail
      go_ret2
      exact ⟨rfl, rfl⟩
    have c3 : 55296 ≤ c := by omega
    have c4 : c ≤ 57343 := by omega
    go_enter Tryz.func154, Tryz.ntmps154
    go_wp2_with fail
    go_ret2
    exact ⟨rfl, rfl⟩
end Go.Proofs.YtlfbnfphocpgeaaGreatDoor.Utf
namespace Go.Proofs.YtlfbnfphocpgeaaGreatDoor.Quo
open Go.RowKit Kit Txt Utf
theorem or_low4 (c x : Nat) (hc : c < 1099511627776) (hx : x < 16) : bits .or .i64 ((c : Int) * 16) (x : Int) = ((c * 16 + x : Nat) : Int) := by
  have e1 : (c : Int) * 16 = ((c * 16 : Nat) : Int) := by omega
  rw [e1]
  have h1 : (BitVec.ofInt 64 ((c * 16 : Nat) : Int)).toNat = c * 16 := by
    rw [BitVec.ofInt_natCast, BitVec.toNat_ofNat]; exact Nat.mod_eq_of_lt (by omega)
  have h2 : (BitVec.ofInt 64 (x : Int)).toNat = x := by
    rw [BitVec.ofInt_natCast, BitVec.toNat_ofNat]; exact Nat.mod_eq_of_lt (by omega)
  have h3 : c * 16 ||| x = c * 16 + x := by
    have := Nat.shiftLeft_add_eq_or_of_lt (b := x) (i := 4) (by omega) c
    rw [Nat.shiftLeft_eq] at this
    exact this.symm
  show IntKind.i64.wrap ((BitVec.ofInt 64 ((c * 16 : Nat) : Int) ||| BitVec.ofInt 64 (x : Int)).toNat : Int) = _
  rw [BitVec.toNat_or, h1, h2, h3]
  simp only [IntKind.wrap, IntKind.signed, IntKind.bits]
  simp
  omega
theorem unit_step (k n : Nat) (l : List UInt8) : unitF (k + 1) n l = if digE l = 0 then unitF k (n * 16 + digV l) l.tail else (0, digE l) := by
  cases l with
  | nil => rfl
  | cons c r =>
    rw [show unitF (k + 1) n (c :: r) = (match hexV c with | none => (0, 3) | some d => unitF k (n * 16 + d) r) from rfl, show digE (c :: r) = (match hexV c with | none => 3 | some _ => 0) from rfl, show digV (c :: r) = (hexV c).getD 0 from rfl]
    cases hexV c <;> rfl
theorem digV_lt (l : List UInt8) : digV l < 16 := by
  unfold digV
  cases l with
  | nil => decide
  | cons c r =>
    cases h : hexV c with
    | none => dsimp only; rw [h]; decide
    | some d => dsimp only; rw [h]; have := (hexI_some h).2; simp; omega
set_option maxRecDepth 100000 in
set_option maxHeartbeats 1000000 in
theorem mnumber_any {w : World} {R : Nat} {l : List UInt8} (h : Rdr R l w) :
    Calls Tryz.prog 183 #[rp R] w fun e w' => Takes R w (unit l).2 (.int .i64 ((unit l).1 : Int)) (l.drop 4) e w' := by
  have hd := fun wx rx (hx : Rdr R rx wx) => mdigit_any hx
  unfold rp at *
  go_enter Tryz.func183, Tryz.ntmps183
  go_wp2_with fail
  go_loopw [3, 4] (fun n j wr => ∃ (k m nn : Nat) (rest : List UInt8), k + m = 4 ∧ n = .int .i64 (nn : Int) ∧ j = .int .i64 (k : Int) ∧ Rdr R rest wr ∧ w.grownBy wr (some R) ∧ unitF m nn rest = unit l ∧ rest = l.drop k ∧ nn < 65536 * 16 ^ k) (fun _ j _ => 4 - (intOf j).toNat)
  case atStart => exact ⟨0, 4, 0, l, rfl, rfl, rfl, h, World.grownBy.refl _ _, rfl, rfl, by simp⟩
  case round =>
    obtain ⟨k, m, nn, rest, hkm, rfl, rfl, hR, hg, hu, hrest, hnn⟩ := hrel
    by_cases hlt : k < 4
    · obtain ⟨m', rfl⟩ : ∃ m', m = m' + 1 := ⟨m - 1, by omega⟩
      have hks : (k : Int) < 4 := by omega
      have hp : 65536 * 16 ^ k ≤ 65536 * 16 ^ 3 := Nat.mul_le_mul_left _ (Nat.pow_le_pow_right (by omega) (by omega))
      have ws : IntKind.i64.wrap ((nn : Int) * 16) = (nn : Int) * 16 := by simp only [IntKind.wrap, IntKind.signed, IntKind.bits]; simp; omega
      rw [unit_step] at hu
      have hor := or_low4 nn (digV rest) (by omega) (digV_lt rest)
      have hdig := hd _ _ hR
      by_cases he : digE rest = 0
      · rw [if_pos he] at hu
        have hH := Lib.hid hu
        have hdv := digV_lt rest
        rw [he] at hdig
        generalize digV rest = dv at *
        clear hu he
        go_wp2_with fail
        refine hdig.mono ?_
        rintro e w1 ⟨k1, (⟨-, rfl, h1⟩ | ⟨hk, -⟩)⟩
        case inr => exact absurd rfl hk
        go_wp2_with fail
        go_roundw
        case rel => exact ⟨k + 1, m', nn * 16 + dv, rest.tail, by omega, by go_num, by go_num, h1, grownBy.trans hg k1, hH.out, by rw [hrest, List.tail_drop], by rw [Nat.pow_succ]; omega⟩
        case measure => simp [intOf]; omega
      · rw [if_neg he] at hu
        have hu2 : (unit l).2 = digE rest := by rw [← hu]
        have hH := Lib.hid he
        have hU := Lib.hid hu2
        clear hu he hu2
        go_wp2_with fail
        refine hdig.mono ?_
        rintro e w1 ⟨k1, (⟨hk, -, -⟩ | ⟨hk, rfl⟩)⟩
        · exact absurd hk hH.out
        refine ⟨rfl, ?_⟩
        rw [hU.out]
        exact .no hk (grownBy.trans hg k1)
    · obtain rfl : k = 4 := by omega
      obtain rfl : m = 0 := by omega
      subst hrest
      have hu' : (nn, 0) = unit l := hu
      have hU := Lib.hid hu'
      clear hu' hu
      go_wp2_with fail
      go_ret
      rw [← hU.out]
      exact .mk hR hg
/-- The scalar's number behind a backslash and u. -/
def codeN (l : List UInt8) : Nat := if (unit l).1 < 55296 ∨ 57343 < (unit l).1 then (unit l).1 else 65536 + ((unit l).1 - 55296) * 1024 + ((unit (l.drop 6)).1 - 56320)
theorem follow_want (l : List UInt8) : follow l = if wantE 92 l ≠ 0 then wantE 92 l else wantE 117 l.tail := by
  cases l with
  | nil => rfl
  | cons a r =>
    by_cases ha : a = 92
    · subst ha
      cases r with
      | nil => rfl
      | cons b t =>
        by_cases hb : b = 117
        · subst hb
          rfl
        · show (if b ≠ 117 then 3 else 0) = (if b = 117 then 0 else 3)
          rw [if_pos hb, if_neg hb]
    · have e1 : follow (a :: r) = 3 := if_pos ha
      have e2 : wantE 92 (a :: r) = 3 := if_neg ha
      rw [e1, e2]
      rfl
set_option maxRecDepth 100000 in
set_option maxHeartbeats 2000000 in
theorem mscalar_any {w : World} {R : Nat} {l : List UInt8} (h : Rdr R l w) :
    Calls Tryz.prog 155 #[rp R] w fun e w' => Takes R w (coded l).e (.int .i64 (codeN l : Int)) (l.drop ((coded l).size - 2)) e w' := by
  have h1 := mnumber_any h
  have hn2 := fun wx (hx : Rdr R (l.drop 6) wx) => mnumber_any hx
  have hw1 := fun wx (hx : Rdr R (l.drop 4) wx) => mwant_any (c := 92) (x := 92) hx rfl
  have hw2 := fun wx (hx : Rdr R (l.drop 4).tail wx) => mwant_any (c := 117) (x := 117) hx rfl
  have t4 : (l.drop 4).tail = l.drop 5 := by rw [List.tail_drop]
  have t5 : (l.drop 4).tail.tail = l.drop 6 := by rw [List.tail_drop, List.tail_drop]
  have hlt1 := unit_lt l
  have hlt2 := unit_lt (l.drop 6)
  have hfw := follow_want (l.drop 4)
  have hcod : coded l = if (unit l).2 ≠ 0 then err (unit l).2
    else if 56320 ≤ (unit l).1 ∧ (unit l).1 ≤ 57343 then err 3
    else if (unit l).1 < 55296 ∨ 57343 < (unit l).1 then ⟨enc (unit l).1, 6, 0⟩
    else if follow (l.drop 4) ≠ 0 then err (follow (l.drop 4))
    else if (unit (l.drop 6)).2 ≠ 0 then err (unit (l.drop 6)).2
    else if (unit (l.drop 6)).1 < 56320 ∨ 57343 < (unit (l.drop 6)).1 then err 3
    else ⟨enc (65536 + ((unit l).1 - 55296) * 1024 + ((unit (l.drop 6)).1 - 56320)), 12, 0⟩ := rfl
  have hcn : codeN l = if (unit l).1 < 55296 ∨ 57343 < (unit l).1 then (unit l).1 else 65536 + ((unit l).1 - 55296) * 1024 + ((unit (l.drop 6)).1 - 56320) := rfl
  rw [t5] at hw2
  generalize unit l = u1 at *
  generalize unit (l.drop 6) = u2 at *
  generalize follow (l.drop 4) = fo at *
  obtain ⟨n, e⟩ := u1
  obtain ⟨m, f⟩ := u2
  dsimp only at *
  by_cases c1 : e = 0
  case neg =>
    rw [if_pos c1] at hcod
    have hC := Lib.hid hcod
    clear hcod hcn hn2 hw1 hw2 hlt1 hlt2 hfw t4 t5
    unfold rp at *
    go_enter Tryz.func155, Tryz.ntmps155
    go_wp2_with fail
    refine h1.mono ?_
    rintro en w1 ⟨k1, (⟨hk, -, -⟩ | ⟨hk, rfl⟩)⟩
    · exact absurd hk c1
    refine ⟨rfl, ?_⟩
    rw [hC.out]
    exact .no hk k1
  subst c1
  rw [if_neg (by simp)] at hcod
  by_cases c2 : 56320 ≤ n ∧ n ≤ 57343
  · rw [if_pos c2] at hcod
    have hC := Lib.hid hcod
    have d1 : decide ((n : Int) < 55296) = false := by simp; omega
    have d2 : decide ((57343 : Int) < n) = false := by simp; omega
    have d3 : (56320 : Int) ≤ n := by omega
    clear hcod hcn hn2 hw1 hw2 hlt1 hlt2 hfw t4 t5
    unfold rp at *
    go_enter Tryz.func155, Tryz.ntmps155
    go_wp2_with fail
    refine h1.mono ?_
    rintro en w1 ⟨k1, (⟨-, rfl, k2⟩ | ⟨hk, -⟩)⟩
    case inr => exact absurd rfl hk
    go_wp2_with fail
    refine ⟨rfl, ?_⟩
    rw [hC.out]
    exact .no (Nat.succ_ne_zero 2) k1
  rw [if_neg c2] at hcod
  by_cases c3 : n < 55296 ∨ 57343 < n
  · rw [if_pos c3] at hcod hcn
    have hC := Lib.hid hcod
    have hN := Lib.hid hcn
    clear hcod hcn hn2 hw1 hw2 hlt1 hlt2 hfw t4 t5 c2
    unfold rp at *
    by_cases c4 : n < 55296
    · have d1 : (n : Int) < 55296 := by omega
      clear c3
      go_enter Tryz.func155, Tryz.ntmps155
      go_wp2_with fail
      refine h1.mono ?_
      rintro en w1 ⟨k1, (⟨-, rfl, k2⟩ | ⟨hk, -⟩)⟩
      case inr => exact absurd rfl hk
      go_wp2_with fail
      go_ret
      rw [hC.out, hN.out]
      exact .mk k2 k1
    · have d1 : decide ((n : Int) < 55296) = false := by simp; omega
      have d2 : (57343 : Int) < n := by omega
      clear c3
      go_enter Tryz.func155, Tryz.ntmps155
      go_wp2_with fail
      refine h1.mono ?_
      rintro en w1 ⟨k1, (⟨-, rfl, k2⟩ | ⟨hk, -⟩)⟩
      case inr => exact absurd rfl hk
      go_wp2_with fail
      go_ret
      rw [hC.out, hN.out]
      exact .mk k2 k1
  rw [if_neg c3] at hcod hcn
  have d1 : decide ((n : Int) < 55296) = false := by simp; omega
  have d2 : decide ((57343 : Int) < n) = false := by simp; omega
  have d3 : decide ((56320 : Int) ≤ n) = false := by simp; omega
  have hlo : 55296 ≤ n := by omega
  clear c2 c3
  by_cases c4 : wantE 92 (l.drop 4) = 0
  case neg =>
    rw [if_pos c4] at hfw
    rw [if_pos (by rw [hfw]; exact c4)] at hcod
    rw [hfw] at hcod
    have hC := Lib.hid hcod
    have h4 := Lib.hid c4
    clear hcod hcn hn2 hw2 hlt1 hlt2 hfw t4 t5 c4
    unfold rp at *
    go_enter Tryz.func155, Tryz.ntmps155
    go_wp2_with fail
    refine h1.mono ?_
    rintro en w1 ⟨k1, (⟨-, rfl, k2⟩ | ⟨hk, -⟩)⟩
    case inr => exact absurd rfl hk
    go_wp2_with fail
    refine (hw1 _ k2).mono ?_
    rintro en w2 ⟨k3, (⟨hk, -, -⟩ | ⟨hk, rfl⟩)⟩
    · exact absurd hk h4.out
    refine ⟨rfl, ?_⟩
    rw [hC.out]
    exact .no hk (grownBy.trans k1 k3)
  rw [if_neg (by simp [c4])] at hfw
  rw [c4] at hw1
  clear c4
  by_cases c5 : wantE 117 (l.drop 4).tail = 0
  case neg =>
    rw [if_pos (by rw [hfw]; exact c5)] at hcod
    rw [hfw] at hcod
    have hC := Lib.hid hcod
    have h5 := Lib.hid c5
    clear hcod hcn hn2 hlt1 hlt2 hfw t4 t5 c5
    unfold rp at *
    go_enter Tryz.func155, Tryz.ntmps155
    go_wp2_with fail
    refine h1.mono ?_
    rintro en w1 ⟨k1, (⟨-, rfl, k2⟩ | ⟨hk, -⟩)⟩
    case inr => exact absurd rfl hk
    go_wp2_with fail
    refine (hw1 _ k2).mono ?_
    rintro en w2 ⟨k3, (⟨-, rfl, k4⟩ | ⟨hk, -⟩)⟩
    case inr => exact absurd rfl hk
    go_wp2_with fail
    refine (hw2 _ k4).mono ?_
    rintro en w3 ⟨k5, (⟨hk, -, -⟩ | ⟨hk, rfl⟩)⟩
    · exact absurd hk h5.out
    refine ⟨rfl, ?_⟩
    rw [hC.out]
    exact .no hk (grownBy.trans (grownBy.trans k1 k3) k5)
  rw [c5] at hw2 hfw
  rw [hfw, if_neg (by simp)] at hcod
  clear c5 hfw t4 t5
  by_cases c6 : f = 0
  case neg =>
    rw [if_pos c6] at hcod
    have hC := Lib.hid hcod
    clear hcod hcn hlt1 hlt2
    unfold rp at *
    go_enter Tryz.func155, Tryz.ntmps155
    go_wp2_with fail
    refine h1.mono ?_
    rintro en w1 ⟨k1, (⟨-, rfl, k2⟩ | ⟨hk, -⟩)⟩
    case inr => exact absurd rfl hk
    go_wp2_with fail
    refine (hw1 _ k2).mono ?_
    rintro en w2 ⟨k3, (⟨-, rfl, k4⟩ | ⟨hk, -⟩)⟩
    case inr => exact absurd rfl hk
    go_wp2_with fail
    refine (hw2 _ k4).mono ?_
    rintro en w3 ⟨k5, (⟨-, rfl, k6⟩ | ⟨hk, -⟩)⟩
    case inr => exact absurd rfl hk
    go_wp2_with fail
    refine (hn2 _ k6).mono ?_
    rintro en w4 ⟨k7, (⟨hk, -, -⟩ | ⟨hk, rfl⟩)⟩
    · exact absurd hk c6
    refine ⟨rfl, ?_⟩
    rw [hC.out]
    exact .no hk (grownBy.trans (grownBy.trans (grownBy.trans k1 k3) k5) k7)
  subst c6
  rw [if_neg (by simp)] at hcod
  by_cases c7 : m < 56320 ∨ 57343 < m
  · rw [if_pos c7] at hcod
    have hC := Lib.hid hcod
    clear hcod hcn hlt1 hlt2
    unfold rp at *
    by_cases c8 : m < 56320
    · have d4 : (m : Int) < 56320 := by omega
      clear c7
      go_enter Tryz.func155, Tryz.ntmps155
      go_wp2_with fail
      refine h1.mono ?_
      rintro en w1 ⟨k1, (⟨-, rfl, k2⟩ | ⟨hk, -⟩)⟩
      case inr => exact absurd rfl hk
      go_wp2_with fail
      refine (hw1 _ k2).mono ?_
      rintro en w2 ⟨k3, (⟨-, rfl, k4⟩ | ⟨hk, -⟩)⟩
      case inr => exact absurd rfl hk
      go_wp2_with fail
      refine (hw2 _ k4).mono ?_
      rintro en w3 ⟨k5, (⟨-, rfl, k6⟩ | ⟨hk, -⟩)⟩
      case inr => exact absurd rfl hk
      go_wp2_with fail
      refine (hn2 _ k6).mono ?_
      rintro en w4 ⟨k7, (⟨-, rfl, k8⟩ | ⟨hk, -⟩)⟩
      case inr => exact absurd rfl hk
      go_wp2_with fail
      refine ⟨rfl, ?_⟩
      rw [hC.out]
      exact .no (Nat.succ_ne_zero 2) (grownBy.trans (grownBy.trans (grownBy.trans k1 k3) k5) k7)
    · have d4 : decide ((m : Int) < 56320) = false := by simp; omega
      have d5 : (57343 : Int) < m := by omega
      clear c7
      go_enter Tryz.func155, Tryz.ntmps155
      go_wp2_with fail
      refine h1.mono ?_
      rintro en w1 ⟨k1, (⟨-, rfl, k2⟩ | ⟨hk, -⟩)⟩
      case inr => exact absurd rfl hk
      go_wp2_with fail
      refine (hw1 _ k2).mono ?_
      rintro en w2 ⟨k3, (⟨-, rfl, k4⟩ | ⟨hk, -⟩)⟩
      case inr => exact absurd rfl hk
      go_wp2_with fail
      refine (hw2 _ k4).mono ?_
      rintro en w3 ⟨k5, (⟨-, rfl, k6⟩ | ⟨hk, -⟩)⟩
      case inr => exact absurd rfl hk
      go_wp2_with fail
      refine (hn2 _ k6).mono ?_
      rintro en w4 ⟨k7, (⟨-, rfl, k8⟩ | ⟨hk, -⟩)⟩
      case inr => exact absurd rfl hk
      go_wp2_with fail
      refine ⟨rfl, ?_⟩
      rw [hC.out]
      exact .no (Nat.succ_ne_zero 2) (grownBy.trans (grownBy.trans (grownBy.trans k1 k3) k5) k7)
  rw [if_neg c7] at hcod
  have d4 : decide ((m : Int) < 56320) = false := by simp; omega
  have d5 : decide ((57343 : Int) < m) = false := by simp; omega
  have e1 : ((n : Int) - 55296) = ((n - 55296 : Nat) : Int) := by omega
  obtain ⟨n', hn'⟩ : ∃ n', n - 55296 = n' := ⟨_, rfl⟩
  have hn'2 : n' < 65536 := by omega
  have wa : IntKind.i64.wrap ((n : Int) - 55296) = (n : Int) - 55296 := by simp only [IntKind.wrap, IntKind.signed, IntKind.bits]; simp; omega
  have wb : IntKind.i64.wrap (((n : Int) - 55296) * 1024) = ((n : Int) - 55296) * 1024 := by simp only [IntKind.wrap, IntKind.signed, IntKind.bits]; simp; omega
  have wc : IntKind.i64.wrap (65536 + ((n : Int) - 55296) * 1024) = 65536 + ((n : Int) - 55296) * 1024 := by simp only [IntKind.wrap, IntKind.signed, IntKind.bits]; simp; omega
  have wd : IntKind.i64.wrap (65536 + ((n : Int) - 55296) * 1024 + (m : Int)) = 65536 + ((n : Int) - 55296) * 1024 + (m : Int) := by simp only [IntKind.wrap, IntKind.signed, IntKind.bits]; simp; omega
  have we : IntKind.i64.wrap (65536 + ((n : Int) - 55296) * 1024 + (m : Int) - 56320) = 65536 + ((n : Int) - 55296) * 1024 + (m : Int) - 56320 := by simp only [IntKind.wrap, IntKind.signed, IntKind.bits]; simp; omega
  have hz : ((codeN l : Nat) : Int) = 65536 + ((n : Int) - 55296) * 1024 + (m : Int) - 56320 := by rw [hcn]; omega
  have hC := Lib.hid hcod
  have hZ := Lib.hid hz
  clear hcod hcn hlt1 hlt2 hz e1 hn' hn'2 c7
  unfold rp at *
  go_enter Tryz.func155, Tryz.ntmps155
  go_wp2_with fail
  refine h1.mono ?_
  rintro en w1 ⟨k1, (⟨-, rfl, k2⟩ | ⟨hk, -⟩)⟩
  case inr => exact absurd rfl hk
  go_wp2_with fail
  refine (hw1 _ k2).mono ?_
  rintro en w2 ⟨k3, (⟨-, rfl, k4⟩ | ⟨hk, -⟩)⟩
  case inr => exact absurd rfl hk
  go_wp2_with fail
  refine (hw2 _ k4).mono ?_
  rintro en w3 ⟨k5, (⟨-, rfl, k6⟩ | ⟨hk, -⟩)⟩
  case inr => exact absurd rfl hk
  go_wp2_with fail
  refine (hn2 _ k6).mono ?_
  rintro en w4 ⟨k7, (⟨-, rfl, k8⟩ | ⟨hk, -⟩)⟩
  case inr => exact absurd rfl hk
  go_wp2_with fail
  go_ret
  rw [hC.out, hZ.out]
  rw [List.drop_drop] at k8
  exact .mk k8 (grownBy.trans (grownBy.trans (grownBy.trans k1 k3) k5) k7)
end Go.Proofs.YtlfbnfphocpgeaaGreatDoor.Quo
namespace Go.Proofs.YtlfbnfphocpgeaaGreatDoor.Quo
open Go.RowKit Kit Txt Utf
/-- What stands behind a backslash, and what it stands for. -/
def signsL : List UInt8 := [34, 92, 47, 98, 102, 110, 114, 116]
def meansL : List UInt8 := [34, 92, 47, 8, 12, 10, 13, 9]
theorem index_any {w : World} (l : List UInt8) (c : UInt8) : Calls Tryz.prog 69 #[.string (txt l), .int .u8 (c.toNat : Int)] w fun e w' => e = .returned (.int .i64 (Lib.indexByte l c)) ∧ w' = w := by
  have h := Tryz.strings_IndexByte (txt l) (c.toNat : Int) w
  rw [txt_list] at h
  have e : ((c.toNat : Int)).toNat.toUInt8 = c := by
    rw [Int.toNat_natCast]
    exact UInt8.ofNat_toNat
  rwa [e] at h
theorem sign_index : ∀ x : Fin 256, (Lib.indexByte signsL (UInt8.ofNat x.val) = -1 ∧ sign (UInt8.ofNat x.val) = none) ∨
    (∃ i : Fin 8, Lib.indexByte signsL (UInt8.ofNat x.val) = (i.val : Int) ∧ sign (UInt8.ofNat x.val) = meansL[i.val]?) := by decide +kernel
theorem sign_at (d : UInt8) : (Lib.indexByte signsL d = -1 ∧ sign d = none) ∨ (∃ i : Nat, i < 8 ∧ Lib.indexByte signsL d = (i : Int) ∧ sign d = meansL[i]?) := by
  have h := sign_index ⟨d.toNat, d.toNat_lt⟩
  rw [show UInt8.ofNat d.toNat = d from UInt8.ofNat_toNat] at h
  exact h.imp id fun ⟨i, h1, h2⟩ => ⟨i.val, i.isLt, h1, h2⟩
theorem unit_nil_len {l : List UInt8} (h : (coded l).e = 0) : 6 ≤ (coded l).size := by
  obtain ⟨_, _, _, h3, _⟩ := coded_ok h
  exact h3
theorem coded_scalar {l : List UInt8} (h : (coded l).e = 0) : Scalar (codeN l) ∧ (coded l).s = enc (codeN l) := by
  have b1 := unit_lt l
  have b2 := unit_lt (l.drop 6)
  unfold coded at h ⊢
  unfold codeN
  by_cases c1 : (unit l).2 ≠ 0
  · rw [if_pos c1] at h; exact absurd h c1
  rw [if_neg c1] at h ⊢
  by_cases c2 : 56320 ≤ (unit l).1 ∧ (unit l).1 ≤ 57343
  · rw [if_pos c2] at h; cases h
  rw [if_neg c2] at h ⊢
  by_cases c3 : (unit l).1 < 55296 ∨ 57343 < (unit l).1
  · rw [if_pos c3, if_pos c3]
    exact ⟨by unfold Scalar; omega, rfl⟩
  rw [if_neg c3] at h ⊢
  rw [if_neg c3]
  by_cases c4 : follow (l.drop 4) ≠ 0
  · rw [if_pos c4] at h; exact absurd h c4
  rw [if_neg c4] at h ⊢
  by_cases c5 : (unit (l.drop 6)).2 ≠ 0
  · rw [if_pos c5] at h; exact absurd h c5
  rw [if_neg c5] at h ⊢
  by_cases c6 : (unit (l.drop 6)).1 < 56320 ∨ 57343 < (unit (l.drop 6)).1
  · rw [if_pos c6] at h; cases h
  rw [if_neg c6]
  exact ⟨by unfold Scalar; omega, by dsimp only⟩
set_option maxRecDepth 100000 in
theorem means_sl {i : Nat} (hi : i < 8) (wx : World) : ∃ x, meansL[i]? = some x ∧ (Instr.slice 9 (.string (txt meansL)) (some (.int .i64 (i : Int))) (some (.int .i64 ((i : Int) + 1))) none).run Tryz.prog wx = .ok (.string (txt [x])) wx := by
  have h := slM (l := meansL) (y := (i : Int)) (z := (i : Int) + 1) (i := i) (j := i + 1) rfl (by omega) (by omega) (by simp [meansL]; omega) wx
  have h8 : ∀ k : Fin 8, meansL[k.val]? = some (meansL.getD k.val 0) ∧ (meansL.drop k.val).take (k.val + 1 - k.val) = [meansL.getD k.val 0] := by decide +kernel
  obtain ⟨h1, h2⟩ := h8 ⟨i, hi⟩
  dsimp only at h1 h2
  rw [h2] at h
  exact ⟨_, h1, h⟩
set_option maxRecDepth 100000 in
set_option maxHeartbeats 2000000 in
theorem mescaped_any {w : World} {R : Nat} {l : List UInt8} (h : Rdr R l w) :
    Calls Tryz.prog 126 #[rp R] w fun e w' => Takes R w (part (92 :: l)).e (.string (txt (part (92 :: l)).s)) ((92 :: l).drop (part (92 :: l)).size) e w' := by
  cases l with
  | nil =>
    have hn := next_nil h
    unfold rp at *
    go_enter Tryz.func126, Tryz.ntmps126
    go_wp2_with fail
    refine hn.mono ?_
    rintro e w1 ⟨rfl, rfl⟩
    exact ⟨rfl, .no (Nat.succ_ne_zero 1) (World.grownBy.refl _ _)⟩
  | cons d r =>
    have hn := next_cons h
    by_cases hd : d = 117
    · subst hd
      have hp : part (92 :: 117 :: r) = coded r := rfl
      have hdr : (coded r).e = 0 → (92 :: 117 :: r).drop (coded r).size = r.drop ((coded r).size - 2) := fun h => by
        have := unit_nil_len h
        obtain ⟨k, hk⟩ : ∃ k, (coded r).size = k + 2 := ⟨(coded r).size - 2, by omega⟩
        rw [hk]
        rfl
      have hs := fun wx (hx : Rdr R r wx) => mscalar_any hx
      have hcs := coded_scalar (l := r)
      rw [hp]
      generalize coded r = q at *
      obtain ⟨qs, qz, qe⟩ := q
      dsimp only at *
      by_cases he : qe = 0
      · subst he
        obtain ⟨h1, rfl⟩ := hcs rfl
        have hput := fun wx => put_any (w := wx) (c := (codeN r : Int)) (by omega) (by unfold Scalar at h1; omega)
        have hpl : putL (codeN r : Int) = enc (codeN r) := by
          unfold putL
          unfold Scalar at h1
          rw [if_pos (by omega), Int.toNat_natCast]
        have htx : (⟨(putL (codeN r : Int)).toArray⟩ : ByteArray) = txt (enc (codeN r)) := by rw [hpl]; rfl
        rw [htx] at hput
        have hD := Lib.hid (hdr rfl)
        clear hdr hcs hp hpl htx
        unfold rp at *
        go_enter Tryz.func126, Tryz.ntmps126
        go_wp2_with fail
        refine hn.mono ?_
        rintro e w1 ⟨rfl, k1, k2⟩
        go_wp2_with fail
        refine (hs _ k1).mono ?_
        rintro en w2 ⟨k3, (⟨-, rfl, k4⟩ | ⟨hk, -⟩)⟩
        case inr => exact absurd rfl hk
        go_wp2_with fail
        refine (hput _).mono ?_
        rintro en w3 ⟨rfl, rfl⟩
        go_wp2_with fail
        go_ret
        rw [hD.out]
        exact .mk k4 (grownBy.trans k2 k3)
      · clear hdr hcs hp
        unfold rp at *
        go_enter Tryz.func126, Tryz.ntmps126
        go_wp2_with fail
        refine hn.mono ?_
        rintro e w1 ⟨rfl, k1, k2⟩
        go_wp2_with fail
        refine (hs _ k1).mono ?_
        rintro en w2 ⟨k3, (⟨hk, -, -⟩ | ⟨hk, rfl⟩)⟩
        · exact absurd hk he
        exact ⟨rfl, .no hk (grownBy.trans k2 k3)⟩
    · have hp : part (92 :: d :: r) = match sign d with
          | some x => ⟨[x], 2, 0⟩
          | none => if d = 117 then coded r else err 3 := rfl
      have e1 : ((d.toNat : Int) == 117) = false := by
        simp
        intro e
        exact hd (UInt8.toNat_inj.1 (by rw [show (117 : UInt8).toNat = 117 from rfl]; omega))
      have hix := fun wx => index_any (w := wx) signsL d
      have ts : (⟨#[34, 92, 47, 98, 102, 110, 114, 116]⟩ : ByteArray) = txt signsL := rfl
      have tm : (⟨#[34, 92, 47, 8, 12, 10, 13, 9]⟩ : ByteArray) = txt meansL := rfl
      rcases sign_at d with ⟨h1, h2⟩ | ⟨i, hi, h1, h2⟩
      · rw [h2] at hp
        dsimp only at hp
        rw [if_neg hd] at hp
        have hP := Lib.hid hp
        simp only [h1] at hix
        clear hp h1 h2 tm hd
        unfold rp at *
        go_enter Tryz.func126, Tryz.ntmps126
        go_wp2_with fail
        refine hn.mono ?_
        rintro e w1 ⟨rfl, k1, k2⟩
        go_wp2_with fail
        refine (hix _).mono ?_
        rintro e w2 ⟨rfl, rfl⟩
        go_wp2_with fail
        refine ⟨rfl, ?_⟩
        rw [hP.out]
        exact .no (Nat.succ_ne_zero 2) k2
      · have hsl := fun wx => means_sl hi wx
        obtain ⟨x, hx, -⟩ := hsl w
        have hsl' : ∀ wx, (Instr.slice 9 (.string (txt meansL)) (some (.int .i64 (i : Int))) (some (.int .i64 ((i : Int) + 1))) none).run Tryz.prog wx = .ok (.string (txt [x])) wx := fun wx => by
          obtain ⟨y, hy, h⟩ := means_sl hi wx
          rw [hx] at hy
          injection hy with hy
          subst hy
          exact h
        rw [h2, hx] at hp
        dsimp only at hp
        have hP := Lib.hid hp
        simp only [h1] at hix
        have wi : IntKind.i64.wrap ((i : Int) + 1) = (i : Int) + 1 := by simp only [IntKind.wrap, IntKind.signed, IntKind.bits]; simp; omega
        have d0 : decide ((i : Int) < 0) = false := by simp
        clear hp h1 h2 hd hsl hx
        unfold rp at *
        go_enter Tryz.func126, Tryz.ntmps126
        go_wp2_with fail
        refine hn.mono ?_
        rintro e w1 ⟨rfl, k1, k2⟩
        go_wp2_with fail
        refine (hix _).mono ?_
        rintro e w2 ⟨rfl, rfl⟩
        go_wp2_with fail
        go_ret
        rw [hP.out]
        exact .mk k1 k2
end Go.Proofs.YtlfbnfphocpgeaaGreatDoor.Quo
namespace Go.Proofs.YtlfbnfphocpgeaaGreatDoor.Jdec
open Go.RowKit Kit Txt
open Utf (nb)
def blanksL : List UInt8 := [9, 10, 13, 32]
theorem blank_idx : ∀ x : Fin 256, (blank (UInt8.ofNat x.val) = true ∧ 0 ≤ Lib.indexByte blanksL (UInt8.ofNat x.val)) ∨ (blank (UInt8.ofNat x.val) = false ∧ Lib.indexByte blanksL (UInt8.ofNat x.val) < 0) := by decide +kernel
theorem blank_cases (c : UInt8) : (blank c = true ∧ 0 ≤ Lib.indexByte blanksL c) ∨ (blank c = false ∧ Lib.indexByte blanksL c < 0) := by
  have h := blank_idx ⟨c.toNat, c.toNat_lt⟩
  dsimp only at h
  rwa [show UInt8.ofNat c.toNat = c from UInt8.ofNat_toNat] at h
/-- Where the reader is. -/
def atN (R : Nat) (wx : World) : Nat := match wx.cell? ⟨R, 1, none⟩ with
  | some (.int _ z) => z.toNat
  | _ => 0
theorem atN_of {R : Nat} {s : List UInt8} {q : Nat} {o : Int} {u : Value} {w : World} (h : Rdr R s q o u w) : atN R w = q := by
  unfold atN
  rw [cell_of h 1]
  rfl
theorem skip_yes {s : List UInt8} {q : Nat} (h : q < s.length) (hb : blank s[q] = true) : skip (s.drop q) = skip (s.drop (q + 1)) := by
  unfold skip
  rw [List.drop_eq_getElem_cons h, List.dropWhile_cons, if_pos hb]
theorem skip_no {s : List UInt8} {q : Nat} (h : q < s.length) (hb : blank s[q] = false) : skip (s.drop q) = s.drop q := by
  unfold skip
  rw [List.drop_eq_getElem_cons h, List.dropWhile_cons, if_neg (by rw [hb]; decide)]
theorem skip_end {s : List UInt8} {q : Nat} (h : s.length ≤ q) : skip (s.drop q) = s.drop q := by
  rw [List.drop_eq_nil_of_le h]
  rfl
theorem skipAt_of {s : List UInt8} {q p : Nat} (hp : p ≤ s.length) (h : skip (s.drop q) = s.drop p) : skipAt s q = p := by
  unfold skipAt
  rw [h, List.length_drop]
  omega
theorem skipAt_id {s : List UInt8} {q : Nat} : q ≤ s.length → q ≤ skipAt s q := fun h => by
  have h2 := skip_le (s.drop q)
  rw [List.length_drop] at h2
  unfold skipAt
  omega
set_option maxRecDepth 100000 in
set_option maxHeartbeats 4000000 in
theorem mskip_any {w : World} {R : Nat} {s : List UInt8} {q : Nat} {o : Int} {u : Value} (hs : s.length < 100000) (hq : q ≤ s.length) (h : Rdr R s q o u w) :
    Calls Tryz.prog 47 #[rp R] w fun e w' => e = .returned (.tuple #[]) ∧ Rdr R s (skipAt s q) o u w' ∧ w.grownBy w' (some R) := by
  have hz := txt_size s
  unfold rp
  go_enter Tryz.func47, Tryz.ntmps47
  go_wp2_with fail
  go_loopw [30] (fun _ wr => ∃ p : Nat, Rdr R s p o u wr ∧ p ≤ s.length ∧ skip (s.drop q) = skip (s.drop p) ∧ w.grownBy wr (some R)) (fun _ wr => s.length - atN R wr)
  case atStart => exact ⟨q, h, hq, rfl, World.grownBy.refl _ _⟩
  case round =>
    clear h
    obtain ⟨p, hp, hle, hk, hg⟩ := hrel
    obtain ⟨c0, c1, c2, c3⟩ := four hp
    have hf := free_of hp 1
    have hm := atN_of hp
    have hwq : IntKind.i64.wrap ((p : Int) + 1) = (p : Int) + 1 := by simp only [IntKind.wrap, IntKind.signed, IntKind.bits]; simp; omega
    by_cases hlt : p < s.length
    · have hlt1 : decide (p < s.length) = true := decide_eq_true hlt
      have hlt' : (p : Int) < (s.length : Int) := by omega
      have hix := idx hlt
      rw [nb_get hlt] at hix
      have hib := fun wx => Quo.index_any (w := wx) blanksL s[p]
      rcases blank_cases s[p] with ⟨hb, hi⟩ | ⟨hb, hi⟩
      · have hk2 := hk.trans (skip_yes hlt hb)
        have hge : decide ((0 : Int) ≤ Lib.indexByte blanksL s[p]) = true := decide_eq_true hi
        generalize Lib.indexByte blanksL s[p] = z at *
        generalize (s[p]).toNat = y at *
        have fin : ∀ wx, Below wr.heap.size wr wx → Rdr R s (p + 1) o u (wx.setCell ⟨R, 1, none⟩ (.int .i64 ((p : Int) + 1))) ∧ w.grownBy (wx.setCell ⟨R, 1, none⟩ (.int .i64 ((p : Int) + 1))) (some R) := fun wx h1 => ⟨(hp.below h1).goes (p + 1), grown_trans (grown_below hg h1) (grown_cell _ _ _ _)⟩
        have HF := Lib.hid fin
        have HM := Lib.hid hm
        have HK := Lib.hid hk2
        have HI := Lib.hid hib
        clear hk hk2 fin hm hp hb hib hg
        unfold blanksL txt at HI
        go_wp2_with fail
        go_quiet ((go_at_call 69; exact Calls.quiet_of_same (HI.out _)))
        go_wp2_with fail
        have b9 := below_drewN (Below.refl wr.heap.size wr) nq
        go_roundw
        case rel => exact ⟨p + 1, (HF.out _ b9).1, by omega, HK.out, (HF.out _ b9).2⟩
        case measure =>
          have := atN_of (HF.out _ b9).1
          have := HM.out
          omega
      · have hk2 := hk.trans (skip_no hlt hb)
        have hge : decide ((0 : Int) ≤ Lib.indexByte blanksL s[p]) = false := decide_eq_false (by omega)
        generalize Lib.indexByte blanksL s[p] = z at *
        generalize (s[p]).toNat = y at *
        have hat := skipAt_of hle hk2
        have fin : ∀ wx, Below wr.heap.size wr wx → Rdr R s (skipAt s q) o u wx ∧ w.grownBy wx (some R) := fun wx h1 => ⟨by rw [hat]; exact hp.below h1, grown_below hg h1⟩
        have HF := Lib.hid fin
        have HI := Lib.hid hib
        clear hk hk2 fin hm hp hb hib hg hat
        unfold blanksL txt at HI
        go_wp2_with fail
        go_quiet ((go_at_call 69; exact Calls.quiet_of_same (HI.out _)))
        go_wp2_with fail
        go_end0
        exact ⟨rfl, HF.out _ (below_drewN (Below.refl wr.heap.size wr) _)⟩
    · have hlt1 : decide (p < s.length) = false := decide_eq_false hlt
      have hk2 := hk.trans (skip_end (by omega))
      have hat := skipAt_of hle hk2
      have fin : ∀ wx, Below wr.heap.size wr wx → Rdr R s (skipAt s q) o u wx ∧ w.grownBy wx (some R) := fun wx h1 => ⟨by rw [hat]; exact hp.below h1, grown_below hg h1⟩
      have HF := Lib.hid fin
      clear hk hk2 fin hm hp hg hat
      go_wp2_with fail
      go_quiet (fail)
      go_wp2_with fail
      go_end0
      exact ⟨rfl, HF.out _ (below_drewN (Below.refl wr.heap.size wr) _)⟩
end Go.Proofs.YtlfbnfphocpgeaaGreatDoor.Jdec
