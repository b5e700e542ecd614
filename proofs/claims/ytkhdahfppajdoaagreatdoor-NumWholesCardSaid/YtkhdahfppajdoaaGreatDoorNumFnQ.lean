/- The contract of num.Parse as it landed. Nothing is claimed here. -/
import Derived.Test.YtkhdahfppajdoaaGreatDoorNumFnP
namespace Go.Proofs.YtkhdahfppajdoaaGreatDoor.Num
open Go.RowKit Kit

theorem powZ_small {I F : List UInt8} {x : Option (UInt8 × List UInt8 × List UInt8)} (_h : Parts I F x) : -1099511627776 ≤ expZ x ∧ expZ x ≤ 1099511627776 := by
  have hcc : capT = 1099511627776 := rfl
  match x with
  | none => exact ⟨by decide, by decide⟩
  | some (m, s, E) =>
    have := powN_le E
    show -1099511627776 ≤ powZ s E ∧ powZ s E ≤ 1099511627776
    unfold powZ
    split <;> omega
theorem toList_txt (l : List UInt8) : (txt l).toList = l := by unfold txt; rw [ByteArray.toList_mk]

set_option maxRecDepth 100000 in
set_option maxHeartbeats 2000000 in
theorem nparse_tab {w : World} (ho : Tab w) {l : List UInt8} (hl : l.length < 100000) :
    Calls Tryz.prog 9 #[.string (txt l)] w fun e w' => e = .returned (parseV (parse l)) ∧ Below w.heap.size w w' := by
  have hs := txt_size l
  have ht0 : (⟨#[]⟩ : ByteArray) = txt [] := rfl
  have hA := World.alloc_heap_new w (.cells #[.bool false, .string (txt []), .int .i64 0] 23)
  have bA : Below w.heap.size w (w.alloc (.cells #[.bool false, .string (txt []), .int .i64 0] 23)) := (Below.refl _ w).alloc (Nat.le_refl _) _
  have q0 := cell_of hA 0
  have q1 := cell_of hA 1
  have q2 := cell_of hA 2
  have qf := free_of hA
  by_cases h0 : l = []
  · subst h0
    have hp : parse [] = (zero, 3) := rfl
    have he := toList_txt []
    simp only [List.length_nil] at hs
    rw [hp]
    clear hp hA ho
    go_enter Tryz.func9, Tryz.ntmps9
    go_wp2_with fail
    refine bodyPost_ret (v := parseV (zero, 3)) (by simp [results, Tryz.results9, go_sem, parseV, numV, zero, *]) rfl ⟨rfl, by first | exact bA | exact below_set3 bA _ _ _⟩
  · have he2 : ((txt l).toList == (txt []).toList) = false := by rw [toList_txt, toList_txt]; simp [h0]
    have hsc := nscan_tab (ho.below bA) hl
    by_cases h1 : scan l = l.length
    · obtain ⟨n, I, F, x, hP, rfl⟩ := parts_of h1 h0
      have hp := parse_prog n hP hl
      obtain ⟨a1, a2⟩ := cut_neg n hP
      obtain ⟨z1, z2⟩ := powZ_small hP
      have hlt : (text n I F x).length = (negT n).length + (rest I F x).length := by unfold text rest; rw [List.length_append]
      have hlm := expT_len x I F
      have hlI : (mantT I F).length = I.length + (fracT F).length := by unfold mantT; rw [List.length_append]
      have hlF : F.length ≤ (fracT F).length := by unfold fracT; split <;> simp_all
      have c1 := fun wx => cutPre_any (text n I F x) wx
      simp only [a1, a2] at c1
      have c2 := fun wx => cutPower_any (w := wx) hP (by omega)
      have c3 := fun wx => cut_any (w := wx) (F := F) hP.whole (by omega)
      have hadd : txt I ++ txt F = txt (I ++ F) := add_txt I F
      have hfit : ¬ (9223372036854775807 < (txt I).size + (txt F).size) := add_fit (by omega) (by omega)
      have c4 := fun wx => trimL_any (I ++ F) wx
      have hlD : ((I ++ F).dropWhile z48).length ≤ I.length + F.length := by rw [← List.length_append]; exact (List.dropWhile_sublist _).length_le
      have c5 := fun wx => trimR_any (l := (I ++ F).dropWhile z48) (by omega) wx (expZ x - F.length)
      obtain ⟨y1, y2⟩ := strip_len ((I ++ F).dropWhile z48) (expZ x - F.length)
      have hn : norm n ((I ++ F).dropWhile z48) (expZ x - F.length) = if (strip ((I ++ F).dropWhile z48) (expZ x - F.length)).1 = [] then (zero, 0) else if Right ⟨n, (strip ((I ++ F).dropWhile z48) (expZ x - F.length)).1, (strip ((I ++ F).dropWhile z48) (expZ x - F.length)).2⟩ then (⟨n, (strip ((I ++ F).dropWhile z48) (expZ x - F.length)).1, (strip ((I ++ F).dropWhile z48) (expZ x - F.length)).2⟩, 0) else (zero, 4) := rfl
      rw [← hp] at hn
      clear hp a1 a2
      rw [h1] at hsc
      have sF := txt_size F
      have sD := txt_size ((I ++ F).dropWhile z48)
      have sS := txt_size (strip ((I ++ F).dropWhile z48) (expZ x - F.length)).1
      generalize parse (text n I F x) = pr at *
      generalize decide (F ≠ []) = fb at *
      generalize (strip ((I ++ F).dropWhile z48) (expZ x - F.length)).2 = e3 at *
      generalize (strip ((I ++ F).dropWhile z48) (expZ x - F.length)).1 = d3 at *
      generalize (I ++ F).dropWhile z48 = D at *
      generalize expZ x = pz at *
      generalize (text n I F x) = l at *
      have hll : decide ((l.length : Int) < (l.length : Int)) = false := by simp
      have hn1 : IntKind.i64.wrap (pz - (F.length : Int)) = pz - (F.length : Int) := IntWalk.i64_in _ (by omega)
      have hn2 : IntKind.i64.wrap (pz - (F.length : Int) + (D.length : Int)) = pz - (F.length : Int) + (D.length : Int) := IntWalk.i64_in _ (by omega)
      have hn3 : IntKind.i64.wrap (pz - (F.length : Int) + (D.length : Int) - (d3.length : Int)) = pz - (F.length : Int) + (D.length : Int) - (d3.length : Int) := IntWalk.i64_in _ (by omega)
      have hd3 : d3.length < 1000000 := by omega
      subst y2
      have HN := Lib.hid hn
      have HL1 := Lib.hid hlt
      clear hn h0 h1 ho hlt hlm hlI
      go_enter Tryz.func9, Tryz.ntmps9
      go_wp2_with fail
      refine hsc.mono ?_
      rintro e w1 ⟨rfl, k1⟩
      have hA1 := (k1.block _ (lt_of_heap hA)).trans hA
      have b1 := bA.trans (k1.mono bA.size)
      clear q0 q1 q2 qf hA bA k1 hsc
      go_wp2_with fail
      refine (c1 _).mono ?_
      rintro e w1 ⟨rfl, rfl⟩
      go_wp2_with fail
      refine (c2 _).mono ?_
      rintro e w2 ⟨rfl, k2⟩
      have hA2 := (k2.block _ (lt_of_heap hA1)).trans hA1
      have b2 := b1.trans (k2.mono b1.size)
      clear hA1 b1 k2
      go_wp2_with fail
      refine (c3 _).mono ?_
      rintro e w3 ⟨rfl, k3⟩
      have hA3 := (k3.block _ (lt_of_heap hA2)).trans hA2
      have b3 := b2.trans (k3.mono b2.size)
      clear hA2 b2 k3
      go_wp2_with fail
      refine (c4 _).mono ?_
      rintro e w3 ⟨rfl, rfl⟩
      go_wp2_with fail
      refine (c5 _).mono ?_
      rintro e w3 ⟨rfl, rfl⟩
      clear c1 c2 c3 c4 c5
      have hn := HN.out
      have r0 := cell_of hA3 0
      have r1 := cell_of hA3 1
      have r2 := cell_of hA3 2
      have rf := free_of hA3
      by_cases hd : d3 = []
      · rw [if_pos hd] at hn
        have HR := Lib.hid hn
        subst hd
        have he := toList_txt []
        clear hn HN
        go_wp2_with fail
        refine bodyPost_ret (v := parseV (zero, 0)) (by simp [results, Tryz.results9, go_sem, parseV, numV, zero, *]) rfl ⟨by rw [HR.out], by first | exact b3 | exact below_set3 b3 _ _ _⟩
      · rw [if_neg hd] at hn
        have hd2 : ((txt d3).toList == (txt []).toList) = false := by rw [toList_txt, toList_txt]; simp [hd]
        have cc := fun wx => clone_any (l := d3) hd3 (w := wx)
        have hrr := fun wx => nright_all (w := wx) (n := ⟨n, d3, pz - (F.length : Int) + (D.length : Int) - (d3.length : Int)⟩) (by dsimp only; omega)
        simp only [numV] at hrr
        clear HN hd
        go_wp2_with fail
        refine (cc _).mono ?_
        rintro e w4 ⟨rfl, k4⟩
        have hA4 := (k4.block _ (lt_of_heap hA3)).trans hA3
        have b4 := b3.trans (k4.mono b3.size)
        clear hA3 b3 k4 r0 r1 r2 rf cc
        have hA5 := new_of hA4 (.cells #[.bool n, .string (txt d3), .int .i64 (pz - (F.length : Int) + (D.length : Int) - (d3.length : Int))] 23)
        have hB5 := World.alloc_heap_new w4 (.cells #[.bool n, .string (txt d3), .int .i64 (pz - (F.length : Int) + (D.length : Int) - (d3.length : Int))] 23)
        have b5 := b4.alloc b4.size (.cells #[.bool n, .string (txt d3), .int .i64 (pz - (F.length : Int) + (D.length : Int) - (d3.length : Int))] 23)
        have hl4 := lt_of_heap hA4
        obtain ⟨ez, hez⟩ : ∃ ez, pz - (F.length : Int) + (D.length : Int) - (d3.length : Int) = ez := ⟨_, rfl⟩
        rw [hez] at hrr hA5 hB5 b5 hn3 hn
        obtain ⟨g, hg⟩ : ∃ g, w4.heap.size = g := ⟨_, rfl⟩
        go_wp2_with fail
        refine (hrr _).mono ?_
        rintro e w6 ⟨rfl, k6⟩
        have hA6 := (k6.block _ (lt_of_heap hA5)).trans hA5
        have hB6 := (k6.block _ (lt_of_heap hB5)).trans hB5
        have b6 := b5.trans (k6.mono b5.size)
        rw [hg] at hB6
        have r0 := cell_of hA6 0
        have r1 := cell_of hA6 1
        have r2 := cell_of hA6 2
        have rf := free_of hA6
        have y0 := cell_of hB6 0
        have y1 := cell_of hB6 1
        have y2 := cell_of hB6 2
        clear hA4 hA5 hB5 b5 b4 k6 hA6 hB6 hez hn1 hn2 hn3
        clear hg
        by_cases hR : Right ⟨n, d3, ez⟩
        · rw [if_pos hR] at hn
          rw [decide_eq_true hR]
          have HR := Lib.hid hn
          clear hR hn
          go_wp2_with fail
          refine bodyPost_ret (v := parseV (⟨n, d3, ez⟩, 0)) (by simp [results, Tryz.results9, go_sem, parseV, numV, *]) rfl ⟨by rw [HR.out], below_set3 b6 _ _ _⟩
        · rw [if_neg hR] at hn
          rw [decide_eq_false hR]
          have HR := Lib.hid hn
          clear hR hn
          go_wp2_with fail
          refine bodyPost_ret (v := parseV (zero, 4)) (by simp [results, Tryz.results9, go_sem, parseV, numV, zero, *]) rfl ⟨by rw [HR.out], below_set3 b6 _ _ _⟩
    · have h1' : (scan l : Int) < (l.length : Int) := by
        have := scan_le l
        omega
      have hp : parse l = (zero, 3) := by unfold parse; rw [if_pos (.inr h1)]
      rw [hp]
      generalize scan l = sc at *
      clear hp h1 ho
      go_enter Tryz.func9, Tryz.ntmps9
      go_wp2_with fail
      refine hsc.mono ?_
      rintro e w1 ⟨rfl, k1⟩
      have hA1 := (k1.block _ (lt_of_heap hA)).trans hA
      have r0 := cell_of hA1 0
      have r1 := cell_of hA1 1
      have r2 := cell_of hA1 2
      have rf := free_of hA1
      have b1 := bA.trans (k1.mono bA.size)
      clear q0 q1 q2 qf hA hA1 bA k1
      go_wp2_with fail
      refine bodyPost_ret (v := parseV (zero, 3)) (by simp [results, Tryz.results9, go_sem, parseV, numV, zero, *]) rfl ⟨rfl, by first | exact b1 | exact below_set3 b1 _ _ _⟩
end Go.Proofs.YtkhdahfppajdoaaGreatDoor.Num
