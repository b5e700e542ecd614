/- A part of what cuts_holds leans on (its texts, put together). Nothing is claimed here. -/
import Derived.Lib.Hide
import Derived.Deep.Cut
import Derived.Deep.AppendLies
import Derived.Shelf.Abstract
import Derived.RangeFuncBox
import Derived.OwnWalk
import Derived.BigQuiet
import Derived.Laws.IdiomStrings
import Derived.WalkSpells
import Derived.WalkLawsBesides
import Derived.TacticsInMore
import Derived.RangeFuncNested
import Derived.RangeFuncLeaves
import Derived.RangeFuncCalls
import Derived.RangeFuncBound
import Derived.OwnWalkIn
import Derived.LoopNIn
import Derived.LoopIn
import Derived.Deep.QuietTactic
import Derived.Deep.RegionWith
import Derived.Deep.RegionHeld3
import Derived.Test.YtlfbnfphocpgeaaGreatDoorCt0
namespace Go.Proofs.YtlfbnfphocpgeaaGreatDoor.Num
open Go.RowKit Kit
set_option maxRecDepth 100000 in
theorem run_any {w : World} {l : List UInt8} {i : Nat} (hl : l.length < 1000000000) (hi : i ≤ l.length) :
    Calls Tryz.prog 86 #[.string (txt l), .int .i64 i] w fun e w' => e = .returned (.int .i64 (run l i)) ∧ w' = w := by
  go_enter Tryz.func86, Tryz.ntmps86
  go_wp2_with fail
  go_loopw [1] (fun j wr => ∃ k : Nat, j = .int .i64 k ∧ k ≤ l.length ∧ run l i = run l k ∧ wr = w) (fun j _ => l.length - (intOf j).toNat)
  case atStart => exact ⟨i, rfl, hi, rfl, rfl⟩
  case round =>
    obtain ⟨k, rfl, hk, hr, rfl⟩ := hrel
    have hd := digit_any (w := wr) (l := l) (i := k) hl
    by_cases h : DigAt l k
    · rw [decide_eq_true h] at hd
      rw [run_on h] at hr
      have hlt := digAt_lt h
      have H1 := Lib.hid hr
      clear hr h
      go_wp2_with fail
      refine hd.mono ?_
      rintro e w1 ⟨rfl, rfl⟩
      go_wp2_with fail
      go_roundw
      case rel => exact ⟨k + 1, by go_num, by omega, H1.out, by first | trivial | rfl⟩
      case measure => simp [intOf]; omega
    · rw [decide_eq_false h] at hd
      rw [run_stop h] at hr
      have H1 := Lib.hid hr
      clear hr h
      go_wp2_with fail
      refine hd.mono ?_
      rintro e w1 ⟨rfl, rfl⟩
      go_wp2_with fail
      go_ret
      rw [H1.out]
      exact ⟨rfl, rfl⟩
theorem nb_ne {l : List UInt8} {i x : Nat} (h : nb l i = x) (h0 : x ≠ 0) : i < l.length := by
  by_cases hl : i < l.length
  · exact hl
  · rw [nb_past (by omega)] at h
    omega
theorem intEnd_le {l : List UInt8} {i : Nat} (h : DigAt l i) : intEnd l i ≤ l.length := by
  have := digAt_lt h
  unfold intEnd
  split
  · omega
  · exact run_le (by omega)
theorem fracEnd_le {l : List UInt8} {i : Nat} (h : i ≤ l.length) : fracEnd l i ≤ l.length := by
  unfold fracEnd
  split
  · rename_i hh
    have := digAt_lt hh.2
    exact run_le (by omega)
  · exact h
set_option maxRecDepth 100000 in
set_option maxHeartbeats 1000000 in
theorem scan_any {w : World} {l : List UInt8} (hl : l.length < 1000000000) :
    Calls Tryz.prog 56 #[.string (txt l)] w fun e w' => e = .returned (.int .i64 (scan l)) ∧ w' = w := by
  have hs := txt_size l
  go_enter Tryz.func56, Tryz.ntmps56
  go_upto_region 2 with fail
  go_cut [12] from 5 (fun c wc => (∃ b : Bool, c = .bool b ∧ (b = true ↔ nb l 0 = 45)) ∧ w = wc)
  case first =>
    by_cases h0 : 0 < l.length
    · have h0' : decide (0 < l.length) = true := by simp; omega
      have h1 := idx h0
      rw [show ((0 : Nat) : Int) = 0 from rfl] at h1
      by_cases h2 : nb l 0 = 45
      · rw [h2] at h1
        go_wp2_with fail
        go_meet
        case rel => exact ⟨⟨true, rfl, by simp [h2]⟩, rfl⟩
      · have h2' : ((nb l 0 : Int) == 45) = false := by simp; omega
        generalize hx : nb l 0 = x at *
        go_wp2_with fail
        go_meet
        case rel => exact ⟨⟨false, rfl, by simp [h2]⟩, rfl⟩
    · have h0' : decide (0 < l.length) = false := decide_eq_false h0
      have h2 : ¬ nb l 0 = 45 := fun e => h0 (nb_ne e (by omega))
      go_wp2_with fail
      go_meet
      case rel => exact ⟨⟨false, rfl, by simp [h2]⟩, rfl⟩
  case rest =>
    obtain ⟨⟨b, rfl, hb⟩, rfl⟩ := hcut
    go_upto_if 12 with fail
    go_cut [3] from 5 (fun i wc => i = .int .i64 (neg0 l) ∧ w = wc)
    case first =>
      cases b with
      | true =>
        have hn : neg0 l = 1 := by unfold neg0; rw [if_pos (hb.1 rfl)]
        clear hb
        go_wp2_with fail
        go_meet
        case rel => exact ⟨by rw [hn]; rfl, rfl⟩
      | false =>
        have hn : neg0 l = 0 := by unfold neg0; rw [if_neg (fun e => by have := hb.2 e; cases this)]
        clear hb
        go_wp2_with fail
        go_meet
        case rel => exact ⟨by rw [hn]; rfl, rfl⟩
    case rest =>
      obtain ⟨rfl, rfl⟩ := hcut
      clear hb
      have hn1 : neg0 l ≤ 1 := by unfold neg0; split <;> simp
      have hd := digit_any (w := w) (l := l) (i := neg0 l) hl
      have hsc : scan l = if DigAt l (neg0 l) then expEnd l (fracEnd l (intEnd l (neg0 l))) else 0 := rfl
      obtain ⟨i, hi⟩ : ∃ i, neg0 l = i := ⟨_, rfl⟩
      rw [hi] at hd hsc hn1 ⊢
      by_cases h : DigAt l i
      · rw [decide_eq_true h] at hd
        rw [if_pos h] at hsc
        have hlt := digAt_lt h
        have hie := intEnd_le h
        have h1 := idx hlt
        have HSC := Lib.hid hsc
        have HI := Lib.hid hi
        clear hsc hi
        go_wp2_with fail
        refine hd.mono ?_
        rintro e w1 ⟨rfl, rfl⟩
        clear hd
        go_upto_if 20 with fail
        go_cut [3] from 13 (fun i' wc => i' = .int .i64 (intEnd l i) ∧ w1 = wc)
        case first =>
          by_cases h2 : nb l i = 48
          · have he : intEnd l i = i + 1 := by unfold intEnd; rw [if_pos h2]
            have h2' : ((nb l i : Int) == 48) = true := by simp; omega
            go_wp2_with fail
            go_meet
            case rel => exact ⟨by rw [he]; go_num, rfl⟩
          · have he : intEnd l i = run l i := by unfold intEnd; rw [if_neg h2]
            have h2' : ((nb l i : Int) == 48) = false := by simp; omega
            have hr := run_any (w := w1) (l := l) (i := i) hl (by omega)
            rw [← he] at hr
            go_wp2_with fail
            refine hr.mono ?_
            rintro e w2 ⟨rfl, rfl⟩
            go_wp2_with fail
            go_meet
            case rel => exact ⟨by rw [he], rfl⟩
        case rest =>
          obtain ⟨rfl, rfl⟩ := hcut
          clear h1
          obtain ⟨j, hj⟩ : ∃ j, intEnd l i = j := ⟨_, rfl⟩
          have hsc := HSC.out
          rw [hj] at hsc hie ⊢
          clear HSC
          have HSC := Lib.hid hsc
          have HJ := Lib.hid hj
          clear hsc hj h
          have hfe := fracEnd_le (l := l) (i := j) hie
          go_upto_region 9 with fail
          go_cut [41] from 13 (fun c wc => (∃ b : Bool, c = .bool b ∧ (b = true ↔ (nb l j = 46 ∧ DigAt l (j + 1)))) ∧ w1 = wc)
          case first =>
            by_cases h2 : j < l.length
            · have h2' : (j : Int) < (l.length : Int) := by omega
              have h3 := idx h2
              by_cases h4 : nb l j = 46
              · rw [h4] at h3
                have hd := digit_any (w := w1) (l := l) (i := j + 1) hl
                by_cases h5 : DigAt l (j + 1)
                · rw [decide_eq_true h5] at hd
                  go_wp2_with fail
                  refine hd.mono ?_
                  rintro e w2 ⟨rfl, rfl⟩
                  go_wp2_with fail
                  go_meet
                  case rel => exact ⟨⟨true, rfl, by simp [h4, h5]⟩, rfl⟩
                · rw [decide_eq_false h5] at hd
                  go_wp2_with fail
                  refine hd.mono ?_
                  rintro e w2 ⟨rfl, rfl⟩
                  go_wp2_with fail
                  go_meet
                  case rel => exact ⟨⟨false, rfl, by simp [h5]⟩, rfl⟩
              · have h4' : ((nb l j : Int) == 46) = false := by simp; omega
                generalize hx : nb l j = x at *
                go_wp2_with fail
                go_meet
                case rel => exact ⟨⟨false, rfl, by simp [h4]⟩, rfl⟩
            · have h4 : ¬ nb l j = 46 := fun e => h2 (nb_ne e (by omega))
              have h2' : decide ((j : Int) < (l.length : Int)) = false := by simp; omega
              go_wp2_with fail
              go_meet
              case rel => exact ⟨⟨false, rfl, by simp [h4]⟩, rfl⟩
          case rest =>
            obtain ⟨⟨b, rfl, hb⟩, rfl⟩ := hcut
            go_upto_if 41 with fail
            go_cut [3] from 13 (fun i' wc => i' = .int .i64 (fracEnd l j) ∧ w1 = wc)
            case first =>
              cases b with
              | true =>
                have ht := hb.1 rfl
                have he : fracEnd l j = run l (j + 1) := by unfold fracEnd; rw [if_pos ht]
                have hlt2 := digAt_lt ht.2
                have hr := run_any (w := w1) (l := l) (i := j + 1) hl (by omega)
                rw [← he] at hr
                clear hb ht
                go_wp2_with fail
                refine hr.mono ?_
                rintro e w2 ⟨rfl, rfl⟩
                go_wp2_with fail
                go_meet
                case rel => exact ⟨by rw [he], rfl⟩
              | false =>
                have he : fracEnd l j = j := by unfold fracEnd; rw [if_neg (fun e => by have := hb.2 e; cases this)]
                clear hb
                go_wp2_with fail
                go_meet
                case rel => exact ⟨by rw [he], rfl⟩
            case rest =>
              obtain ⟨rfl, rfl⟩ := hcut
              clear hb
              obtain ⟨k, hk⟩ : ∃ k, fracEnd l j = k := ⟨_, rfl⟩
              have hsc := HSC.out
              rw [hk] at hsc hfe ⊢
              clear HSC
              have HSC := Lib.hid hsc
              have HK := Lib.hid hk
              clear hsc hk
              go_upto_region 11 with fail
              go_cut [61] from 13 (fun c wc => (∃ b : Bool, c = .bool b ∧ (b = true ↔ (nb l k = 101 ∨ nb l k = 69))) ∧ w1 = wc)
              case first =>
                by_cases h2 : k < l.length
                · have h2' : (k : Int) < (l.length : Int) := by omega
                  have h3 := idx h2
                  by_cases h4 : nb l k = 101
                  · rw [h4] at h3
                    go_wp2_with fail
                    go_meet
                    case rel => exact ⟨⟨true, rfl, by simp [h4]⟩, rfl⟩
                  · have h4' : ((nb l k : Int) == 101) = false := by simp; omega
                    by_cases h5 : nb l k = 69
                    · rw [h5] at h3
                      go_wp2_with fail
                      go_meet
                      case rel => exact ⟨⟨true, rfl, by simp [h5]⟩, rfl⟩
                    · have h5' : ((nb l k : Int) == 69) = false := by simp; omega
                      generalize hx : nb l k = x at *
                      go_wp2_with fail
                      go_meet
                      case rel => exact ⟨⟨false, rfl, by simp [h4, h5]⟩, rfl⟩
                · have h4 : ¬ nb l k = 101 := fun e => h2 (nb_ne e (by omega))
                  have h5 : ¬ nb l k = 69 := fun e => h2 (nb_ne e (by omega))
                  have h2' : decide ((k : Int) < (l.length : Int)) = false := by simp; omega
                  go_wp2_with fail
                  go_meet
                  case rel => exact ⟨⟨false, rfl, by simp [h4, h5]⟩, rfl⟩
              case rest =>
                obtain ⟨⟨b, rfl, hb⟩, rfl⟩ := hcut
                cases b with
                | false =>
                  have he : expEnd l k = k := by unfold expEnd; rw [if_neg (fun e => by have := hb.2 e.1; cases this)]
                  have hsc := HSC.out
                  rw [he] at hsc
                  have HS2 := Lib.hid hsc
                  clear hb hsc he
                  go_wp2_with fail
                  go_ret
                  rw [HS2.out]
                  exact ⟨rfl, rfl⟩
                | true =>
                  have hE := hb.1 rfl
                  have hklt : k < l.length := by rcases hE with e | e <;> exact nb_ne e (by omega)
                  have HE := Lib.hid hE
                  clear hb hE
                  go_upto_region 13 with fail
                  go_cut [79] from 64 (fun c wc => (∃ b : Bool, c = .bool b ∧ (b = true ↔ (nb l (k + 1) = 43 ∨ nb l (k + 1) = 45))) ∧ w1 = wc)
                  case first =>
                    have hci : ((k + 1 : Nat) : Int) = (k : Int) + 1 := by omega
                    by_cases h2 : k + 1 < l.length
                    · have h2' : (k : Int) + 1 < (l.length : Int) := by omega
                      have h3 := idx h2
                      rw [hci] at h3
                      clear hci
                      by_cases h4 : nb l (k + 1) = 43
                      · rw [h4] at h3
                        go_wp2_with fail
                        go_meet
                        case rel => exact ⟨⟨true, rfl, by simp [h4]⟩, rfl⟩
                      · have h4' : ((nb l (k + 1) : Int) == 43) = false := by simp; omega
                        by_cases h5 : nb l (k + 1) = 45
                        · rw [h5] at h3
                          go_wp2_with fail
                          go_meet
                          case rel => exact ⟨⟨true, rfl, by simp [h5]⟩, rfl⟩
                        · have h5' : ((nb l (k + 1) : Int) == 45) = false := by simp; omega
                          generalize hx : nb l (k + 1) = x at *
                          go_wp2_with fail
                          go_meet
                          case rel => exact ⟨⟨false, rfl, by simp [h4, h5]⟩, rfl⟩
                    · have h4 : ¬ nb l (k + 1) = 43 := fun e => h2 (nb_ne e (by omega))
                      have h5 : ¬ nb l (k + 1) = 45 := fun e => h2 (nb_ne e (by omega))
                      have h2' : decide ((k : Int) + 1 < (l.length : Int)) = false := by simp; omega
                      clear hci
                      go_wp2_with fail
                      go_meet
                      case rel => exact ⟨⟨false, rfl, by simp [h4, h5]⟩, rfl⟩
                  case rest =>
                    obtain ⟨⟨b, rfl, hb⟩, rfl⟩ := hcut
                    go_upto_if 79 with fail
                    go_cut [4] from 64 (fun i' wc => i' = .int .i64 (signEnd l (k + 1)) ∧ w1 = wc)
                    case first =>
                      cases b with
                      | true =>
                        have he : signEnd l (k + 1) = k + 1 + 1 := by unfold signEnd; rw [if_pos (hb.1 rfl)]
                        clear hb
                        go_wp2_with fail
                        go_meet
                        case rel => exact ⟨by rw [he]; go_num, rfl⟩
                      | false =>
                        have he : signEnd l (k + 1) = k + 1 := by unfold signEnd; rw [if_neg (fun e => by have := hb.2 e; cases this)]
                        clear hb
                        go_wp2_with fail
                        go_meet
                        case rel => exact ⟨by rw [he]; go_num, rfl⟩
                    case rest =>
                      obtain ⟨rfl, rfl⟩ := hcut
                      clear hb
                      have hd := digit_any (w := w1) (l := l) (i := signEnd l (k + 1)) hl
                      obtain ⟨q, hq⟩ : ∃ q, signEnd l (k + 1) = q := ⟨_, rfl⟩
                      rw [hq] at hd ⊢
                      by_cases h5 : DigAt l q
                      · rw [decide_eq_true h5] at hd
                        have hlt5 := digAt_lt h5
                        have hr := run_any (w := w1) (l := l) (i := q) hl (by omega)
                        have he : expEnd l k = run l q := by unfold expEnd; rw [hq, if_pos ⟨HE.out, h5⟩]
                        have hsc := HSC.out
                        rw [he] at hsc
                        have HS2 := Lib.hid hsc
                        clear hq hsc he h5
                        go_wp2_with fail
                        refine hd.mono ?_
                        rintro e w2 ⟨rfl, rfl⟩
                        go_wp2_with fail
                        refine hr.mono ?_
                        rintro e w2 ⟨rfl, rfl⟩
                        go_wp2_with fail
                        go_ret
                        rw [HS2.out]
                        exact ⟨rfl, rfl⟩
                      · rw [decide_eq_false h5] at hd
                        have he : expEnd l k = k := by unfold expEnd; rw [hq, if_neg (fun e => h5 e.2)]
                        have hsc := HSC.out
                        rw [he] at hsc
                        have HS2 := Lib.hid hsc
                        clear hq hsc he h5
                        go_wp2_with fail
                        refine hd.mono ?_
                        rintro e w2 ⟨rfl, rfl⟩
                        go_wp2_with fail
                        go_ret
                        rw [HS2.out]
                        exact ⟨rfl, rfl⟩
      · rw [decide_eq_false h] at hd
        rw [if_neg h] at hsc
        have HSC := Lib.hid hsc
        have HI := Lib.hid hi
        clear hsc hi
        go_wp2_with fail
        refine hd.mono ?_
        rintro e w1 ⟨rfl, rfl⟩
        go_wp2_with fail
        go_ret
        rw [HSC.out]
        exact ⟨rfl, rfl⟩
end Go.Proofs.YtlfbnfphocpgeaaGreatDoor.Num
namespace Go.Proofs.YtlfbnfphocpgeaaGreatDoor.Num
open Go.RowKit Kit
set_option maxHeartbeats 8000000 in
set_option maxRecDepth 100000 in
theorem rparse_any {w : World} {l : List UInt8} (hl : l.length < 1000000) :
    Calls Tryz.prog 57 #[.string (txt l)] w fun e w' => e = .returned (parseV (parse l)) ∧ Below w.heap.size w w' := by
  have hs := txt_size l
  have hp : parse l = if l = [] ∨ scan l ≠ l.length then (zero, 3) else norm (decide (nb l 0 = 45)) (mant (mantL l (neg0 l))).2.2 ((mant (mantL l (neg0 l))).2.1 + powOf (expo (l.drop (neg0 l + (mantL l (neg0 l)).length + 1)))) := rfl
  have ht0 : (⟨#[]⟩ : ByteArray) = txt [] := rfl
  have hz := Pair.new w false
  have hzt := Pair.new w true
  have hA := World.alloc_heap_new w (.cells #[.bool false, .string (txt []), .int .i64 0] 25)
  have bA : Below w.heap.size w (w.alloc (.cells #[.bool false, .string (txt []), .int .i64 0] 25)) := (Below.refl _ w).alloc (Nat.le_refl _) _
  have q0 := cell_of hA 0
  have q1 := cell_of hA 1
  have q2 := cell_of hA 2
  by_cases h0 : l = []
  · rw [if_pos (.inl h0)] at hp
    rw [hp]
    subst h0
    simp only [List.length_nil] at hs
    clear hp hz hzt hA
    go_enter Tryz.func57, Tryz.ntmps57
    go_wp2_with fail
    refine bodyPost_ret (v := parseV (zero, 3)) (by simp [results, Tryz.results57, go_sem, parseV, numV, zero, *]) rfl ⟨rfl, bA⟩
  · have hn0 : ((l.length : Int) == 0) = false := by simp [h0]
    have hln := List.length_pos_iff.2 h0
    have hsc := scan_any (w := w.alloc (.cells #[.bool false, .string (txt []), .int .i64 0] 25)) (l := l) (by omega)
    by_cases h1 : scan l = l.length
    · rw [if_neg (by simp [h0, h1])] at hp
      rw [h1] at hsc
      have h1' : ((l.length : Int) != (l.length : Int)) = false := by simp
      have i0 := idx hln
      rw [show ((0 : Nat) : Int) = 0 from rfl] at i0
      have HP := Lib.hid hp
      clear hp hA h1 bA
      go_enter Tryz.func57, Tryz.ntmps57
      go_wp2_with fail
      refine hsc.mono ?_
      rintro e w1 ⟨rfl, rfl⟩
      clear hsc q0 q1 q2
      have z0 := cell_of hz.2.1 0
      have z1 := cell_of hz.2.1 1
      have z2 := cell_of hz.2.1 2
      have zf := free_of hz.2.1
      go_upto_if 23 with fail
      go_cut [5] from 6 (fun i wc => i = .int .i64 (neg0 l) ∧ Pair w wc (decide (nb l 0 = 45)) [] 0)
      case first =>
        by_cases h2 : nb l 0 = 45
        · have hn : neg0 l = 1 := by unfold neg0; rw [if_pos h2]
          have h2' : ((nb l 0 : Int) == 45) = true := by simp; omega
          have hd : decide (nb l 0 = 45) = true := decide_eq_true h2
          have HN := Lib.hid hn
          have HD := Lib.hid hd
          clear hn hd h2 i0
          go_wp2_with fail
          go_meet
          case rel => exact ⟨by rw [HN.out]; rfl, by rw [HD.out]; exact hzt⟩
        · have hn : neg0 l = 0 := by unfold neg0; rw [if_neg h2]
          have h2' : ((nb l 0 : Int) == 45) = false := by simp; omega
          have hd : decide (nb l 0 = 45) = false := decide_eq_false h2
          have HN := Lib.hid hn
          have HD := Lib.hid hd
          clear hn hd h2 i0
          go_wp2_with fail
          go_meet
          case rel => exact ⟨by rw [HN.out]; rfl, by rw [HD.out]; exact hz⟩
      case rest =>
        obtain ⟨rfl, hPr⟩ := hcut
        clear hz hzt z0 z1 z2 zf i0
        obtain ⟨i0, hi0⟩ : ∃ i0, neg0 l = i0 := ⟨_, rfl⟩
        have hi1 : i0 ≤ l.length := by rw [← hi0]; unfold neg0; split <;> omega
        have hp := HP.out
        rw [hi0] at hp ⊢
        obtain ⟨ng, hng⟩ : ∃ ng, decide (nb l 0 = 45) = ng := ⟨_, rfl⟩
        rw [hng] at hp hPr
        have hM : mantL l i0 = (l.drop i0).takeWhile noE := rfl
        obtain ⟨M, hMe⟩ : ∃ M, mantL l i0 = M := ⟨_, rfl⟩
        rw [hMe] at hp hM
        have hMl : i0 + M.length ≤ l.length := by
          have := tw_le noE (l.drop i0)
          rw [← hM, List.length_drop] at this
          omega
        have hMlt : ∀ k, k < M.length → ∃ c : UInt8, M[k]? = some c ∧ nb l (i0 + k) = c.toNat ∧ noE c = true := by
          intro k hk
          rw [hM] at hk
          obtain ⟨h1, h2, h3⟩ := tw_lt noE (l.drop i0) k hk
          refine ⟨(l.drop i0)[k], by rw [hM]; exact h3, ?_, h2⟩
          rw [List.getElem_drop, nb_get]
        have hMend : i0 + M.length < l.length → nb l (i0 + M.length) = 101 ∨ nb l (i0 + M.length) = 69 := by
          intro h
          have h1 : ((l.drop i0).takeWhile noE).length < (l.drop i0).length := by rw [← hM, List.length_drop]; omega
          have h2 := tw_end noE (l.drop i0) h1
          simp only [← hM, List.getElem_drop] at h2
          rw [nb_get h]
          simp only [noE, decide_eq_false_iff_not] at h2
          by_cases e : l[i0 + M.length] = 101
          · left; rw [e]; rfl
          · by_cases e2 : l[i0 + M.length] = 69
            · right; rw [e2]; rfl
            · exact absurd ⟨e, e2⟩ h2
        have hfin : ∀ k, k = M.length → M.take k = M := fun k hk => by rw [hk, List.take_length]
        have HP2 := Lib.hid hp
        have HMt := Lib.hid hMlt
        have HMe := Lib.hid hMend
        clear hp HP hi0 hng hM hMe hMlt hMend
        go_wp2_with fail
        go_loopw [5, 6] (fun i p wr => ∃ (k : Nat) (st : Bool × Int × List UInt8), k ≤ M.length ∧ i = .int .i64 ((i0 + k : Nat) : Int) ∧ p = .bool st.1 ∧ (M.take k).foldl mantStep (false, 0, []) = st ∧ Pair w wr ng st.2.2 st.2.1) (fun i _ _ => l.length - (intOf i).toNat)
        case atStart => exact ⟨0, (false, 0, []), Nat.zero_le _, rfl, rfl, rfl, hPr⟩
        case round =>
          clear hPr
          obtain ⟨k, ⟨pt, e, d⟩, hk, rfl, rfl, hst, hPr⟩ := hrel
          dsimp only at *
          have hsm := mant_small (M.take k)
          rw [hst, List.length_take] at hsm
          dsimp only at hsm
          have z0 := cell_of hPr.2.1 0
          have z1 := cell_of hPr.2.1 1
          have z2 := cell_of hPr.2.1 2
          have zf := free_of hPr.2.1
          by_cases hlt : k < M.length
          · obtain ⟨c, hc, hnb, hnoE⟩ := HMt.out k hlt
            have hstep : (M.take (k + 1)).foldl mantStep (false, 0, []) = mantStep (pt, e, d) c := by
              rw [take_snoc hc, List.foldl_append, hst]
              rfl
            have hlt' : ((i0 + k : Nat) : Int) < (l.length : Int) := by omega
            have hix := idx (l := l) (i := i0 + k) (by omega)
            rw [hnb] at hix
            obtain ⟨j, hj⟩ : ∃ j, i0 + k = j := ⟨_, rfl⟩
            rw [hj] at hix hlt' ⊢
            have hcn : c.toNat < 256 := c.toNat_lt
            have t1 : ((c.toNat : Int) != 101) = true := by
              simp only [noE, decide_eq_true_eq] at hnoE
              simp
              intro e
              exact hnoE.1 (UInt8.toNat_inj.1 (by show c.toNat = 101; omega))
            have t2 : ((c.toNat : Int) != 69) = true := by
              simp only [noE, decide_eq_true_eq] at hnoE
              simp
              intro e
              exact hnoE.2 (UInt8.toNat_inj.1 (by show c.toNat = 69; omega))
            have HS := Lib.hid hstep
            have hM2 : k + 1 ≤ M.length := hlt
            have hjl : j < l.length := by omega
            have hjn : Value.int .i64 ((j : Int) + 1) = Value.int .i64 ((i0 + (k + 1) : Nat) : Int) := by rw [← hj]; go_num
            have HJ := Lib.hid hjn
            have htk : (l.drop j).take (j + 1 - j) = [c] := by
              have e1 : nb l j = c.toNat := by rw [← hj]; exact hnb
              have e2 : l[j] = c := UInt8.toNat_inj.1 (by rw [← nb_get hjl]; exact e1)
              rw [List.drop_eq_getElem_cons hjl, e2, show j + 1 - j = 1 by omega]
              rfl
            clear hstep hst hc hnb hnoE hj hjn
            by_cases c46 : c = 46
            · subst c46
              have t3 : (((46 : UInt8).toNat : Int) == 46) = true := rfl
              go_wp2_with fail
              go_roundw
              case rel => exact ⟨k + 1, (true, e, d), hM2, HJ.out, rfl, by rw [HS.out]; rfl, hPr⟩
              case measure => simp [intOf]; omega
            · have t3 : ((c.toNat : Int) == 46) = false := by
                simp
                intro e
                exact c46 (UInt8.toNat_inj.1 (by show c.toNat = 46; omega))
              have hm : mantStep (pt, e, d) c = (pt, if pt then e - 1 else e, if d ≠ [] ∨ c ≠ 48 then d ++ [c] else d) := by unfold mantStep; rw [if_neg c46]
              have hds := txt_size d
              obtain ⟨f1, g1⟩ := add_lit (a := d) (b := [c]) (c := d ++ [c]) rfl rfl (by omega) (by simp)
              have hsl := fun wx => slM (l := l) (y := (j : Int)) (z := (j : Int) + 1) (i := j) (j := j + 1) rfl (by omega) (by omega) (by omega) wx
              simp only [htk] at hsl
              have w1 : IntKind.i64.wrap (e - 1) = e - 1 := by simp only [IntKind.wrap, IntKind.signed, IntKind.bits]; simp; omega
              cases pt with
              | true =>
                have hPe := hPr.exp (e - 1)
                have y0 := cell_of hPe.2.1 0
                have y1 := cell_of hPe.2.1 1
                have y2 := cell_of hPe.2.1 2
                have yf := free_of hPe.2.1
                have hPd := hPe.drew
                have v0 := cell_of hPd.2.1 0
                have v1 := cell_of hPd.2.1 1
                have v2 := cell_of hPd.2.1 2
                have vf := free_of hPd.2.1
                by_cases hkeep : d ≠ [] ∨ c ≠ 48
                · rw [if_pos hkeep] at hm
                  have HM := Lib.hid hm
                  have hcase : decide (0 < d.length) = true ∨ (decide (0 < d.length) = false ∧ ((c.toNat : Int) != 48) = true) := by
                    by_cases hd : d = []
                    · right
                      refine ⟨by simp [hd], ?_⟩
                      simp
                      intro e
                      rcases hkeep with h | h
                      · exact h hd
                      · exact h (UInt8.toNat_inj.1 (by show c.toNat = 48; omega))
                    · left
                      simpa using List.length_pos_iff.2 hd
                  clear hm hkeep
                  rcases hcase with h | ⟨h, h'⟩
                  all_goals
                    go_upto_region 16 with fail
                    go_region
                    all_goals
                      go_wp2_with fail
                      go_roundw
                      case rel => exact ⟨k + 1, (true, e - 1, d ++ [c]), hM2, HJ.out, rfl, by rw [HS.out, HM.out]; rfl, hPd.dig _⟩
                      case measure => simp [intOf]; omega
                · have h1 : d = [] := by
                    by_cases hd : d = []
                    · exact hd
                    · exact absurd (.inl hd) hkeep
                  have h2 : c = 48 := by
                    by_cases hd : c = 48
                    · exact hd
                    · exact absurd (.inr hd) hkeep
                  subst h1; subst h2
                  rw [if_neg hkeep] at hm
                  have HM := Lib.hid hm
                  clear hm hkeep
                  go_wp2_with fail
                  go_roundw
                  case rel => exact ⟨k + 1, (true, e - 1, []), hM2, HJ.out, rfl, by rw [HS.out, HM.out]; rfl, hPe⟩
                  case measure => simp [intOf]; omega
              | false =>
                have hPd := hPr.drew
                have v0 := cell_of hPd.2.1 0
                have v1 := cell_of hPd.2.1 1
                have v2 := cell_of hPd.2.1 2
                have vf := free_of hPd.2.1
                by_cases hkeep : d ≠ [] ∨ c ≠ 48
                · rw [if_pos hkeep] at hm
                  have HM := Lib.hid hm
                  have hcase : decide (0 < d.length) = true ∨ (decide (0 < d.length) = false ∧ ((c.toNat : Int) != 48) = true) := by
                    by_cases hd : d = []
                    · right
                      refine ⟨by simp [hd], ?_⟩
                      simp
                      intro e
                      rcases hkeep with h | h
                      · exact h hd
                      · exact h (UInt8.toNat_inj.1 (by show c.toNat = 48; omega))
                    · left
                      simpa using List.length_pos_iff.2 hd
                  clear hm hkeep
                  rcases hcase with h | ⟨h, h'⟩
                  all_goals
                    go_upto_region 16 with fail
                    go_region
                    all_goals
                      go_wp2_with fail
                      go_roundw
                      case rel => exact ⟨k + 1, (false, e, d ++ [c]), hM2, HJ.out, rfl, by rw [HS.out, HM.out]; rfl, hPd.dig _⟩
                      case measure => simp [intOf]; omega
                · have h1 : d = [] := by
                    by_cases hd : d = []
                    · exact hd
                    · exact absurd (.inl hd) hkeep
                  have h2 : c = 48 := by
                    by_cases hd : c = 48
                    · exact hd
                    · exact absurd (.inr hd) hkeep
                  subst h1; subst h2
                  rw [if_neg hkeep] at hm
                  have HM := Lib.hid hm
                  clear hm hkeep
                  go_wp2_with fail
                  go_roundw
                  case rel => exact ⟨k + 1, (false, e, []), hM2, HJ.out, rfl, by rw [HS.out, HM.out]; rfl, hPr⟩
                  case measure => simp [intOf]; omega
          · obtain rfl : k = M.length := by omega
            rw [List.take_length] at hst
            have hmant : mant M = (pt, e, d) := hst
            have hp := HP2.out
            rw [hmant] at hp
            obtain ⟨j, hj⟩ : ∃ j, i0 + M.length = j := ⟨_, rfl⟩
            have hend := HMe.out
            rw [hj] at hp hend ⊢
            have hjl : j ≤ l.length := by omega
            have HP3 := Lib.hid hp
            go_upto_region 9 with fail
            go_cut [40] from 25 to 70 (fun c wc => c = .bool false ∧ wr = wc)
            case first =>
              clear hst hmant hp HP3 HP2
              by_cases h : j < l.length
              · have h' : (j : Int) < (l.length : Int) := by omega
                have hix := idx h
                rcases hend h with e1 | e1
                all_goals
                  rw [e1] at hix
                  go_wp2_with fail
                  go_meet
                  case rel => exact ⟨rfl, rfl⟩
              · have h' : decide ((j : Int) < (l.length : Int)) = false := by simp; omega
                go_wp2_with fail
                go_meet
                case rel => exact ⟨rfl, rfl⟩
            case rest =>
              obtain ⟨rfl, rfl⟩ := hcut
              have hX : ∀ k, k < (l.drop (j + 1)).length → ∃ c : UInt8, (l.drop (j + 1))[k]? = some c ∧ j + 1 + k < l.length ∧ nb l (j + 1 + k) = c.toNat := by
                intro k hk
                rw [List.length_drop] at hk
                refine ⟨l[j + 1 + k], ?_, by omega, nb_get (by omega)⟩
                rw [List.getElem?_drop, List.getElem?_eq_getElem (by omega)]
              have hXl : (l.drop (j + 1)).length = l.length - (j + 1) := List.length_drop
              obtain ⟨X, hXe⟩ : ∃ X, l.drop (j + 1) = X := ⟨_, rfl⟩
              have hp := HP3.out
              rw [hXe] at hX hXl hp
              have HP4 := Lib.hid hp
              have HX := Lib.hid hX
              clear HP3 hp hX hXe hst hmant hend hj HP2 HMe HMt z0 z1 z2 zf hlt hfin
              go_wp2_with fail
              go_loopw [5, 7, 8] (fun i b dn wr => ∃ (k : Nat) (st : Nat × Bool), k ≤ X.length ∧ i = .int .i64 ((j + 1 + k : Nat) : Int) ∧ b = .int .i64 st.1 ∧ dn = .bool st.2 ∧ (X.take k).foldl expStep (0, false) = st ∧ Pair w wr ng d e) (fun i _ _ _ => l.length - (intOf i).toNat)
              case atStart => exact ⟨0, (0, false), Nat.zero_le _, by go_num, rfl, rfl, rfl, hPr⟩
              case round =>
                clear hPr
                obtain ⟨k, ⟨b, dn⟩, hk, rfl, rfl, rfl, hst, hPr⟩ := hrel
                dsimp only at *
                have hsm := exp_small (X.take k)
                rw [hst] at hsm
                dsimp only at hsm
                obtain ⟨q, hq⟩ : ∃ q, j + 1 + k = q := ⟨_, rfl⟩
                rw [hq]
                by_cases hlt : k < X.length
                · obtain ⟨c, hc, hql, hnb⟩ := HX.out k hlt
                  have hstep : (X.take (k + 1)).foldl expStep (0, false) = expStep (b, dn) c := by
                    rw [take_snoc hc, List.foldl_append, hst]
                    rfl
                  rw [hq] at hql hnb
                  have hlt' : (q : Int) < (l.length : Int) := by omega
                  have hix := idx (l := l) (i := q) hql
                  have hdc := digit_any (w := wr) (l := l) (i := q) (by omega)
                  have hdd : DigAt l q ↔ dg c = true := by
                    unfold DigAt dg
                    rw [hnb]
                    simp
                  rw [hnb] at hix
                  have hqn : Value.int .i64 ((q : Int) + 1) = Value.int .i64 ((j + 1 + (k + 1) : Nat) : Int) := by rw [← hq]; go_num
                  have HQ := Lib.hid hqn
                  have hcn : c.toNat < 256 := c.toNat_lt
                  have hk1 : k + 1 ≤ X.length := hlt
                  by_cases hd : dg c = true
                  · have hcd := dg_num hd
                    have h45 : c ≠ 45 := by rintro rfl; revert hcd; decide
                    have t45 : ((c.toNat : Int) == 45) = false := by simp; omega
                    rw [decide_eq_true (hdd.2 hd)] at hdc
                    by_cases hb : b < 1000000000
                    · have hb' : (b : Int) < 1000000000 := by omega
                      have he : expStep (b, dn) c = (b * 10 + (c.toNat - 48), dn) := by unfold expStep; rw [if_pos ⟨hd, hb⟩]; simp [h45]
                      have HE := Lib.hid (hstep.trans he)
                      have w1 : IntKind.u8.wrap ((c.toNat : Int) - 48) = (c.toNat : Int) - 48 := by simp only [IntKind.wrap, IntKind.signed, IntKind.bits]; simp; omega
                      obtain ⟨x, hx⟩ : ∃ x, c.toNat - 48 = x := ⟨_, rfl⟩
                      have hxi : (c.toNat : Int) - 48 = (x : Int) := by omega
                      rw [hxi] at w1
                      rw [hx] at HE
                      have hx9 : x < 10 := by omega
                      generalize c.toNat = cn at *
                      clear hstep he hdd hd hst hc hnb hq hqn hx h45
                      go_wp2_with fail
                      refine hdc.mono ?_
                      rintro e2 w2 ⟨rfl, rfl⟩
                      go_wp2_with fail
                      go_roundw
                      case rel => exact ⟨k + 1, (b * 10 + x, dn), hk1, HQ.out, by go_num, rfl, HE.out, hPr⟩
                      case measure => simp [intOf]; omega
                    · have hb' : decide ((b : Int) < 1000000000) = false := by simp; omega
                      have he : expStep (b, dn) c = (b, dn) := by unfold expStep; rw [if_neg (fun e => hb e.2)]; simp [h45]
                      have HE := Lib.hid (hstep.trans he)
                      clear hstep he hdd hd hst hc hnb hq hqn h45
                      generalize c.toNat = cn at *
                      go_wp2_with fail
                      refine hdc.mono ?_
                      rintro e2 w2 ⟨rfl, rfl⟩
                      go_wp2_with fail
                      go_roundw
                      case rel => exact ⟨k + 1, (b, dn), hk1, HQ.out, rfl, rfl, HE.out, hPr⟩
                      case measure => simp [intOf]; omega
                  · rw [decide_eq_false (fun e => hd (hdd.1 e))] at hdc
                    by_cases h45 : c = 45
                    · subst h45
                      have t45 : (((45 : UInt8).toNat : Int) == 45) = true := rfl
                      have he : expStep (b, dn) 45 = (b, true) := by unfold expStep; rw [if_neg (fun e => hd e.1)]; simp
                      have HE := Lib.hid (hstep.trans he)
                      clear hstep he hdd hd hst hc hnb hq hqn
                      go_wp2_with fail
                      refine hdc.mono ?_
                      rintro e2 w2 ⟨rfl, rfl⟩
                      go_wp2_with fail
                      go_roundw
                      case rel => exact ⟨k + 1, (b, true), hk1, HQ.out, rfl, rfl, HE.out, hPr⟩
                      case measure => simp [intOf]; omega
                    · have t45 : ((c.toNat : Int) == 45) = false := by
                        simp
                        intro e
                        exact h45 (UInt8.toNat_inj.1 (by show c.toNat = 45; omega))
                      have he : expStep (b, dn) c = (b, dn) := by unfold expStep; rw [if_neg (fun e => hd e.1)]; simp [h45]
                      have HE := Lib.hid (hstep.trans he)
                      clear hstep he hdd hd hst hc hnb hq hqn
                      generalize c.toNat = cn at *
                      go_wp2_with fail
                      refine hdc.mono ?_
                      rintro e2 w2 ⟨rfl, rfl⟩
                      go_wp2_with fail
                      go_roundw
                      case rel => exact ⟨k + 1, (b, dn), hk1, HQ.out, rfl, rfl, HE.out, hPr⟩
                      case measure => simp [intOf]; omega
                · obtain rfl : k = X.length := by omega
                  rw [List.take_length] at hst
                  have hexp : expo X = (b, dn) := hst
                  have hp := HP4.out
                  rw [hexp] at hp
                  have hlt2 : ¬ (q : Int) < (l.length : Int) := by omega
                  have hlt3 : decide (q < l.length) = false := by simp; omega
                  obtain ⟨E, hE⟩ : ∃ E, e + powOf (b, dn) = E := ⟨_, rfl⟩
                  have hEb : -10001000000 < E ∧ E < 10001000000 := by
                    rw [← hE]
                    unfold powOf
                    dsimp only
                    split <;> omega
                  have hEc : (dn = true ∧ e + -(b : Int) = E) ∨ (dn = false ∧ e + (b : Int) = E) := by
                    rw [← hE]
                    cases dn
                    · right; exact ⟨rfl, rfl⟩
                    · left; exact ⟨rfl, rfl⟩
                  rw [hE] at hp
                  have HP5 := Lib.hid hp
                  clear hp HP4 hst hexp HX hE hq hXl hk hlt
                  have z0 := cell_of hPr.2.1 0
                  have z1 := cell_of hPr.2.1 1
                  have z2 := cell_of hPr.2.1 2
                  have zf := free_of hPr.2.1
                  go_upto_if 98 with fail
                  go_cut [7] from 99 (fun x wc => (∃ y : Int, x = .int .i64 y ∧ e + y = E) ∧ wr = wc)
                  case first =>
                    have w1 : IntKind.i64.wrap (0 - (b : Int)) = -(b : Int) := by simp only [IntKind.wrap, IntKind.signed, IntKind.bits]; simp; omega
                    have w2 : IntKind.i64.wrap (-(b : Int)) = -(b : Int) := by simp only [IntKind.wrap, IntKind.signed, IntKind.bits]; simp; omega
                    rcases hEc with ⟨rfl, h⟩ | ⟨rfl, h⟩
                    all_goals
                      have H := Lib.hid h
                      clear h
                      go_wp2_with fail
                      go_meet
                      case rel => exact ⟨⟨_, by first | rfl | go_num, H.out⟩, rfl⟩
                  case rest =>
                    obtain ⟨⟨y, rfl, hy⟩, rfl⟩ := hcut
                    clear hEc
                    have w1 : IntKind.i64.wrap (e + y) = E := by rw [hy]; simp only [IntKind.wrap, IntKind.signed, IntKind.bits]; simp; omega
                    have hPe := hPr.exp E
                    have HY := Lib.hid hy
                    clear hy
                    go_wp2_with fail
                    go_loopw [130] (fun _ wx => ∃ (d3 : List UInt8) (e3 : Int), strip d3 e3 = strip d E ∧ d3.length ≤ d.length ∧ e3 + d3.length = E + d.length ∧ Pair w wx ng d3 e3) (fun _ wx => dlen (w.heap.size + 1) wx)
                    case atStart => exact ⟨d, E, rfl, Nat.le_refl _, rfl, hPe⟩
                    case round =>
                      clear hPe hPr z0 z1 z2 zf
                      obtain ⟨d3, e3, hst3, hl3, he3, hPr⟩ := hrel
                      have z0 := cell_of hPr.2.1 0
                      have z1 := cell_of hPr.2.1 1
                      have z2 := cell_of hPr.2.1 2
                      have zf := free_of hPr.2.1
                      have hds := txt_size d3
                      by_cases h48 : nb d3 (d3.length - 1) = 48
                      · have hd0 : 0 < d3.length := by
                          by_cases h : d3 = []
                          · subst h; rw [nb_nil] at h48; omega
                          · exact List.length_pos_iff.2 h
                        have hix := idz (l := d3) (z := (d3.length : Int) - 1) (by omega) (by omega)
                        rw [show ((d3.length : Int) - 1).toNat = d3.length - 1 by omega, h48] at hix
                        have hsl := fun wx => slH (l := d3) (z := (d3.length : Int) - 1) (k := d3.length - 1) (by omega) (by omega) wx
                        have hdl : d3.take (d3.length - 1) = d3.dropLast := by rw [List.dropLast_eq_take]
                        rw [hdl] at hsl
                        have hst4 := strip_on h48 e3
                        rw [hst3] at hst4
                        have hlen4 : d3.dropLast.length = d3.length - 1 := List.length_dropLast
                        generalize d3.dropLast = d4 at *
                        have w3 : IntKind.i64.wrap (e3 + 1) = e3 + 1 := by simp only [IntKind.wrap, IntKind.signed, IntKind.bits]; simp; omega
                        have hd0' : decide (0 < d3.length) = true := by simp; omega
                        have hP4 := (hPr.dig d4).exp (e3 + 1)
                        have hln1 := dlen_of z1
                        have hln2 := dlen_of (cell_of hP4.2.1 1)
                        have HS := Lib.hid hst4
                        clear hst3 hst4 h48 hdl
                        go_wp2_with fail
                        go_roundw
                        case rel => exact ⟨d4, e3 + 1, HS.out.symm, by omega, by omega, hP4⟩
                        case measure => rw [hln1, hln2]; omega
                      · have hst4 := strip_stop h48 e3
                        rw [hst3] at hst4
                        have hp := HP5.out
                        unfold norm at hp
                        rw [hst4] at hp
                        have HP6 := Lib.hid hp
                        clear hp HP5 hst3 hst4 HY
                        have q0 := cell_of hPr.1 0
                        have q1 := cell_of hPr.1 1
                        have q2 := cell_of hPr.1 2
                        have qf := free_of hPr.1
                        by_cases hd3 : d3 = []
                        · subst hd3
                          have hp := HP6.out
                          rw [if_pos rfl] at hp
                          have HP7 := Lib.hid hp
                          clear hp HP6 h48
                          simp only [List.length_nil] at hds
                          go_wp2_with fail
                          refine bodyPost_ret (v := parseV (zero, 0)) (by simp [results, Tryz.results57, go_sem, parseV, numV, zero, *]) rfl ⟨by rw [HP7.out], below_set3 hPr.2.2 _ _ _⟩
                        · have hp := HP6.out
                          rw [if_neg hd3] at hp
                          have hln3 := List.length_pos_iff.2 hd3
                          have hd0' : decide (0 < d3.length) = true := by simp; omega
                          have hdn : ((d3.length : Int) == 0) = false := by simp [hd3]
                          have hix := idz (l := d3) (z := (d3.length : Int) - 1) (by omega) (by omega)
                          rw [show ((d3.length : Int) - 1).toNat = d3.length - 1 by omega] at hix
                          have h48' : ((nb d3 (d3.length - 1) : Int) == 48) = false := by simp; omega
                          generalize nb d3 (d3.length - 1) = xx at *
                          have hra := fun wz => right_any (w := wz) (n := ⟨ng, d3, e3⟩) (by show d3.length < _; omega)
                          simp only [numV] at hra
                          by_cases hR : Right ⟨ng, d3, e3⟩
                          · rw [if_pos hR] at hp
                            simp only [decide_eq_true hR] at hra
                            have HP7 := Lib.hid hp
                            clear hp HP6 h48 hR
                            go_wp2_with fail
                            refine (hra _).mono ?_
                            rintro e5 w5 ⟨rfl, k5⟩
                            have hP5 := hPr.step k5
                            have y0 := cell_of hP5.2.1 0
                            have y1 := cell_of hP5.2.1 1
                            have y2 := cell_of hP5.2.1 2
                            have r0 := cell_of hP5.1 0
                            have r1 := cell_of hP5.1 1
                            have r2 := cell_of hP5.1 2
                            have rf := free_of hP5.1
                            have hb5 := hP5.2.2
                            clear hPr q0 q1 q2 qf z0 z1 z2 zf k5 hra hP5
                            go_wp2_with fail
                            refine bodyPost_ret (v := parseV (⟨ng, d3, e3⟩, 0)) (by simp [results, Tryz.results57, go_sem, parseV, numV, *]) rfl ⟨by rw [HP7.out], below_set3 hb5 _ _ _⟩
                          · rw [if_neg hR] at hp
                            simp only [decide_eq_false hR] at hra
                            have HP7 := Lib.hid hp
                            clear hp HP6 h48 hR
                            go_wp2_with fail
                            refine (hra _).mono ?_
                            rintro e5 w5 ⟨rfl, k5⟩
                            have hP5 := hPr.step k5
                            have r0 := cell_of hP5.1 0
                            have r1 := cell_of hP5.1 1
                            have r2 := cell_of hP5.1 2
                            have rf := free_of hP5.1
                            have hb5 := hP5.2.2
                            clear hPr q0 q1 q2 qf z0 z1 z2 zf k5 hra hP5
                            go_wp2_with fail
                            refine bodyPost_ret (v := parseV (zero, 4)) (by simp [results, Tryz.results57, go_sem, parseV, numV, zero, *]) rfl ⟨by rw [HP7.out], below_set3 hb5 _ _ _⟩
    · have h1' : ((scan l : Int) != (l.length : Int)) = true := by simp; omega
      rw [if_pos (.inr h1)] at hp
      rw [hp]
      clear hp hz hzt hA h1
      generalize scan l = sc at *
      go_enter Tryz.func57, Tryz.ntmps57
      go_wp2_with fail
      refine hsc.mono ?_
      rintro e w1 ⟨rfl, rfl⟩
      go_wp2_with fail
      refine bodyPost_ret (v := parseV (zero, 3)) (by simp [results, Tryz.results57, go_sem, parseV, numV, zero, *]) rfl ⟨rfl, bA⟩
end Go.Proofs.YtlfbnfphocpgeaaGreatDoor.Num
namespace Go.Proofs.YtlfbnfphocpgeaaGreatDoor.Tre
open Go.RowKit Kit Txt
open Num (Dec zero)
/-- The slice holds the texts. -/
def Ks (w : World) (u : Value) (ls : List (List UInt8)) : Prop :=
  ∃ a c, u = .slice a ls.length c ∧ ls.length ≤ c ∧ c ≤ 9223372036854775807 ∧ (ls = [] ∨ ∃ g off, a = some ⟨g, off, none⟩ ∧ g < w.heap.size ∧ ∀ (i : Nat) (l : List UInt8), ls[i]? = some l → w.cell? ⟨g, off + i, none⟩ = some (.string (txt l)))
theorem Ks.below {w w' : World} {u : Value} {ls : List (List UInt8)} (h : Ks w u ls) (b : Below w.heap.size w w') : Ks w' u ls := by
  obtain ⟨a, c, rfl, hc, hm, h⟩ := h
  refine ⟨a, c, rfl, hc, hm, ?_⟩
  rcases h with h | ⟨g, off, ha, hg, hx⟩
  · exact .inl h
  · exact .inr ⟨g, off, ha, Nat.lt_of_lt_of_le hg b.size, fun i l hi => (b.cell (p := ⟨g, off + i, none⟩) hg).trans (hx i l hi)⟩
/-- The eight cells of a value at a place. -/
def At8 (w : World) (g off : Nat) (cs : List Value) : Prop := cs.length = 8 ∧ ∀ j, j < 8 → w.cell? ⟨g, off + j, none⟩ = cs[j]?
theorem At8.below {w w' : World} {g off : Nat} {cs : List Value} (h : At8 w g off cs) (hg : g < w.heap.size) (b : Below w.heap.size w w') : At8 w' g off cs :=
  ⟨h.1, fun j hj => (b.cell (p := ⟨g, off + j, none⟩) hg).trans (h.2 j hj)⟩
/-- A value's cells. -/
def cellsV (k : Int) (i : Bool) (n : Dec) (s : List UInt8) (uk uv : Value) : List Value := [.int .i64 k, .bool i, .bool n.neg, .string (txt n.dig), .int .i64 n.exp, .string (txt s), uk, uv]
mutual
/-- The cells hold the value. -/
def Hold (w : World) (cs : List Value) : Val → Prop
  | ⟨k, i, n, s, ks, vs⟩ => ∃ uk a c, cs = cellsV k i n s uk (.slice a vs.length c) ∧ Ks w uk ks ∧ vs.length ≤ c ∧ c ≤ 9223372036854775807 ∧ (vs = [] ∨ ∃ g off, a = some ⟨g, off, none⟩ ∧ g < w.heap.size ∧ Holds w g off vs)
/-- From a place on, value by value. -/
def Holds (w : World) (g off : Nat) : List Val → Prop
  | [] => True
  | v :: r => (∃ cs, At8 w g off cs ∧ Hold w cs v) ∧ Holds w g (off + 8) r
end
mutual
theorem Hold.below {w w' : World} (b : Below w.heap.size w w') : ∀ (v : Val) {cs : List Value}, Hold w cs v → Hold w' cs v
  | ⟨k, i, n, s, ks, vs⟩, cs, h => by
    rw [Hold] at h ⊢
    obtain ⟨uk, a, c, hcs, hk, hc, hm, h⟩ := h
    refine ⟨uk, a, c, hcs, hk.below b, hc, hm, ?_⟩
    rcases h with h | ⟨g, off, ha, hg, hx⟩
    · exact .inl h
    · exact .inr ⟨g, off, ha, Nat.lt_of_lt_of_le hg b.size, Holds.below b vs hg hx⟩
theorem Holds.below {w w' : World} (b : Below w.heap.size w w') : ∀ (vs : List Val) {g off : Nat}, g < w.heap.size → Holds w g off vs → Holds w' g off vs
  | [], _, _, _, _ => by rw [Holds]; trivial
  | v :: r, g, off, hg, h => by
    rw [Holds] at h ⊢
    obtain ⟨⟨cs, h8, hv⟩, hr⟩ := h
    exact ⟨⟨cs, h8.below hg b, Hold.below b v hv⟩, Holds.below b r hg hr⟩
end
theorem Holds.at {w : World} {g : Nat} : ∀ {vs : List Val} {off : Nat}, Holds w g off vs → ∀ {i : Nat} {v : Val}, vs[i]? = some v → ∃ cs, At8 w g (off + i * 8) cs ∧ Hold w cs v
  | [], _, _, _, _, hi => by simp at hi
  | x :: r, off, h, 0, v, hi => by
    rw [Holds] at h
    simp at hi
    subst hi
    simpa using h.1
  | x :: r, off, h, i + 1, v, hi => by
    rw [Holds] at h
    have := Holds.at h.2 (i := i) (v := v) (by simpa using hi)
    rwa [show off + (i + 1) * 8 = off + 8 + i * 8 by omega]
/-- A value by its cells. -/
def HoldV (w : World) (u : Value) (v : Val) : Prop := ∃ cs : List Value, u = .agg cs.toArray ∧ Hold w cs v
theorem HoldV.below {w w' : World} {u : Value} {v : Val} (h : HoldV w u v) (b : Below w.heap.size w w') : HoldV w' u v := by
  obtain ⟨cs, hu, hc⟩ := h
  exact ⟨cs, hu, Hold.below b v hc⟩
/-- The eight cells, one by one. -/
theorem At8.cells {w : World} {g off : Nat} {k : Int} {i : Bool} {n : Dec} {s : List UInt8} {uk uv : Value} (h : At8 w g off (cellsV k i n s uk uv)) :
    w.cell? ⟨g, off, none⟩ = some (.int .i64 k) ∧ w.cell? ⟨g, off + 1, none⟩ = some (.bool i) ∧ w.cell? ⟨g, off + 2, none⟩ = some (.bool n.neg) ∧ w.cell? ⟨g, off + 3, none⟩ = some (.string (txt n.dig)) ∧
    w.cell? ⟨g, off + 4, none⟩ = some (.int .i64 n.exp) ∧ w.cell? ⟨g, off + 5, none⟩ = some (.string (txt s)) ∧ w.cell? ⟨g, off + 6, none⟩ = some uk ∧ w.cell? ⟨g, off + 7, none⟩ = some uv :=
  ⟨h.2 0 (by omega), h.2 1 (by omega), h.2 2 (by omega), h.2 3 (by omega), h.2 4 (by omega), h.2 5 (by omega), h.2 6 (by omega), h.2 7 (by omega)⟩
theorem eight {W : World} {g : Nat} {a b c d e f x y : Value} {t : TypeId} {fr : Nat × Nat} (h : W.heap[g]? = some (.cells #[a, b, c, d, e, f, x, y] t fr)) :
    W.cell? ⟨g, 0, none⟩ = some a ∧ W.cell? ⟨g, 1, none⟩ = some b ∧ W.cell? ⟨g, 2, none⟩ = some c ∧ W.cell? ⟨g, 3, none⟩ = some d ∧ W.cell? ⟨g, 4, none⟩ = some e ∧ W.cell? ⟨g, 5, none⟩ = some f ∧ W.cell? ⟨g, 6, none⟩ = some x ∧ W.cell? ⟨g, 7, none⟩ = some y :=
  ⟨cell_of h 0, cell_of h 1, cell_of h 2, cell_of h 3, cell_of h 4, cell_of h 5, cell_of h 6, cell_of h 7⟩
mutual
theorem ind1 {M : Val → Prop} (h : ∀ v : Val, (∀ x ∈ v.kids, M x) → M v) : ∀ v : Val, M v
  | ⟨k, i, n, s, ks, vs⟩ => h ⟨k, i, n, s, ks, vs⟩ (ind2 h vs)
theorem ind2 {M : Val → Prop} (h : ∀ v : Val, (∀ x ∈ v.kids, M x) → M v) : ∀ vs : List Val, ∀ x ∈ vs, M x
  | [], x, hx => absurd hx List.not_mem_nil
  | v :: r, x, hx => by
    rcases List.mem_cons.1 hx with e | hx
    · rw [e]
      exact ind1 h v
    · exact ind2 h r x hx
end
end Go.Proofs.YtlfbnfphocpgeaaGreatDoor.Tre
namespace Go.Proofs.YtlfbnfphocpgeaaGreatDoor.Tre
open Go.RowKit Kit Txt
open Num (Dec zero)
/-- The slice holds the texts, in a block of that kind. -/
def KsP (X : Nat → Prop) (w : World) (u : Value) (ls : List (List UInt8)) : Prop :=
  ∃ a c, u = .slice a ls.length c ∧ ls.length ≤ c ∧ c ≤ 9223372036854775807 ∧ (ls = [] ∨ ∃ g off, a = some ⟨g, off, none⟩ ∧ X g ∧ g < w.heap.size ∧ ∀ (i : Nat) (l : List UInt8), ls[i]? = some l → w.cell? ⟨g, off + i, none⟩ = some (.string (txt l)))
theorem KsP.ks {X : Nat → Prop} {w : World} {u : Value} {ls : List (List UInt8)} (h : KsP X w u ls) : Ks w u ls := by
  obtain ⟨a, c, rfl, hc, hm, h⟩ := h
  exact ⟨a, c, rfl, hc, hm, h.imp id fun ⟨g, off, h1, _, h2⟩ => ⟨g, off, h1, h2⟩⟩
theorem KsP.of {w : World} {u : Value} {ls : List (List UInt8)} (h : Ks w u ls) : KsP (fun _ => True) w u ls := by
  obtain ⟨a, c, rfl, hc, hm, h⟩ := h
  exact ⟨a, c, rfl, hc, hm, h.imp id fun ⟨g, off, h1, h2⟩ => ⟨g, off, h1, trivial, h2⟩⟩
theorem KsP.mono {X Y : Nat → Prop} {w : World} {u : Value} {ls : List (List UInt8)} (h : KsP X w u ls) (hXY : ∀ g, X g → g < w.heap.size → Y g) : KsP Y w u ls := by
  obtain ⟨a, c, rfl, hc, hm, h⟩ := h
  exact ⟨a, c, rfl, hc, hm, h.imp id fun ⟨g, off, h1, h2, h3, h4⟩ => ⟨g, off, h1, hXY g h2 h3, h3, h4⟩⟩
theorem KsP.keep {X : Nat → Prop} {w w' : World} {u : Value} {ls : List (List UInt8)} (h : KsP X w u ls) (hz : w.heap.size ≤ w'.heap.size) (hk : ∀ g, X g → g < w.heap.size → w'.heap[g]? = w.heap[g]?) : KsP X w' u ls := by
  obtain ⟨a, c, rfl, hc, hm, h⟩ := h
  refine ⟨a, c, rfl, hc, hm, h.imp id fun ⟨g, off, h1, h2, h3, h4⟩ => ⟨g, off, h1, h2, Nat.lt_of_lt_of_le h3 hz, fun i l hi => ?_⟩⟩
  rw [← h4 i l hi]
  unfold World.cell?
  rw [hk g h2 h3]
mutual
/-- The cells hold the value, all its memory in blocks of that kind. -/
def HoldP (X : Nat → Prop) (w : World) (cs : List Value) : Val → Prop
  | ⟨k, i, n, s, ks, vs⟩ => ∃ uk a c, cs = cellsV k i n s uk (.slice a vs.length c) ∧ KsP X w uk ks ∧ vs.length ≤ c ∧ c ≤ 9223372036854775807 ∧ (vs = [] ∨ ∃ g off, a = some ⟨g, off, none⟩ ∧ X g ∧ g < w.heap.size ∧ HoldsP X w g off vs)
def HoldsP (X : Nat → Prop) (w : World) (g off : Nat) : List Val → Prop
  | [] => True
  | v :: r => (∃ cs, At8 w g off cs ∧ HoldP X w cs v) ∧ HoldsP X w g (off + 8) r
end
theorem at8_keep {w w' : World} {g off : Nat} {cs : List Value} (h : At8 w g off cs) (hk : w'.heap[g]? = w.heap[g]?) : At8 w' g off cs :=
  ⟨h.1, fun j hj => by
    rw [← h.2 j hj]
    unfold World.cell?
    rw [hk]⟩
mutual
theorem HoldP.hold {X : Nat → Prop} {w : World} : ∀ (v : Val) {cs : List Value}, HoldP X w cs v → Hold w cs v
  | ⟨k, i, n, s, ks, vs⟩, cs, h => by
    rw [HoldP] at h
    rw [Hold]
    obtain ⟨uk, a, c, hcs, hk, hc, hm, h⟩ := h
    refine ⟨uk, a, c, hcs, hk.ks, hc, hm, ?_⟩
    rcases h with h | ⟨g, off, ha, _, hg, hx⟩
    · exact .inl h
    · exact .inr ⟨g, off, ha, hg, HoldsP.holds vs hx⟩
theorem HoldsP.holds {X : Nat → Prop} {w : World} : ∀ (vs : List Val) {g off : Nat}, HoldsP X w g off vs → Holds w g off vs
  | [], _, _, _ => by rw [Holds]; trivial
  | v :: r, g, off, h => by
    rw [HoldsP] at h
    rw [Holds]
    obtain ⟨⟨cs, h8, hv⟩, hr⟩ := h
    exact ⟨⟨cs, h8, HoldP.hold v hv⟩, HoldsP.holds r hr⟩
end
mutual
theorem HoldP.of {w : World} : ∀ (v : Val) {cs : List Value}, Hold w cs v → HoldP (fun _ => True) w cs v
  | ⟨k, i, n, s, ks, vs⟩, cs, h => by
    rw [Hold] at h
    rw [HoldP]
    obtain ⟨uk, a, c, hcs, hk, hc, hm, h⟩ := h
    refine ⟨uk, a, c, hcs, .of hk, hc, hm, ?_⟩
    rcases h with h | ⟨g, off, ha, hg, hx⟩
    · exact .inl h
    · exact .inr ⟨g, off, ha, trivial, hg, HoldsP.of vs hx⟩
theorem HoldsP.of {w : World} : ∀ (vs : List Val) {g off : Nat}, Holds w g off vs → HoldsP (fun _ => True) w g off vs
  | [], _, _, _ => by rw [HoldsP]; trivial
  | v :: r, g, off, h => by
    rw [Holds] at h
    rw [HoldsP]
    obtain ⟨⟨cs, h8, hv⟩, hr⟩ := h
    exact ⟨⟨cs, h8, HoldP.of v hv⟩, HoldsP.of r hr⟩
end
mutual
theorem HoldP.mono {X Y : Nat → Prop} {w : World} (hXY : ∀ g, X g → g < w.heap.size → Y g) : ∀ (v : Val) {cs : List Value}, HoldP X w cs v → HoldP Y w cs v
  | ⟨k, i, n, s, ks, vs⟩, cs, h => by
    rw [HoldP] at h ⊢
    obtain ⟨uk, a, c, hcs, hk, hc, hm, h⟩ := h
    refine ⟨uk, a, c, hcs, hk.mono hXY, hc, hm, ?_⟩
    rcases h with h | ⟨g, off, ha, hX, hg, hx⟩
    · exact .inl h
    · exact .inr ⟨g, off, ha, hXY g hX hg, hg, HoldsP.mono hXY vs hx⟩
theorem HoldsP.mono {X Y : Nat → Prop} {w : World} (hXY : ∀ g, X g → g < w.heap.size → Y g) : ∀ (vs : List Val) {g off : Nat}, HoldsP X w g off vs → HoldsP Y w g off vs
  | [], _, _, _ => by rw [HoldsP]; trivial
  | v :: r, g, off, h => by
    rw [HoldsP] at h ⊢
    obtain ⟨⟨cs, h8, hv⟩, hr⟩ := h
    exact ⟨⟨cs, h8, HoldP.mono hXY v hv⟩, HoldsP.mono hXY r hr⟩
end
mutual
theorem HoldP.keep {X : Nat → Prop} {w w' : World} (hz : w.heap.size ≤ w'.heap.size) (hk : ∀ g, X g → g < w.heap.size → w'.heap[g]? = w.heap[g]?) : ∀ (v : Val) {cs : List Value}, HoldP X w cs v → HoldP X w' cs v
  | ⟨k, i, n, s, ks, vs⟩, cs, h => by
    rw [HoldP] at h ⊢
    obtain ⟨uk, a, c, hcs, hks, hc, hm, h⟩ := h
    refine ⟨uk, a, c, hcs, hks.keep hz hk, hc, hm, ?_⟩
    rcases h with h | ⟨g, off, ha, hX, hg, hx⟩
    · exact .inl h
    · exact .inr ⟨g, off, ha, hX, Nat.lt_of_lt_of_le hg hz, HoldsP.keep hz hk vs hX hg hx⟩
theorem HoldsP.keep {X : Nat → Prop} {w w' : World} (hz : w.heap.size ≤ w'.heap.size) (hk : ∀ g, X g → g < w.heap.size → w'.heap[g]? = w.heap[g]?) : ∀ (vs : List Val) {g off : Nat}, X g → g < w.heap.size → HoldsP X w g off vs → HoldsP X w' g off vs
  | [], _, _, _, _, _ => by rw [HoldsP]; trivial
  | v :: r, g, off, hX, hg, h => by
    rw [HoldsP] at h ⊢
    obtain ⟨⟨cs, h8, hv⟩, hr⟩ := h
    exact ⟨⟨cs, at8_keep h8 (hk g hX hg), HoldP.keep hz hk v hv⟩, HoldsP.keep hz hk r hX hg hr⟩
end
/-- A value by its cells, all its memory in blocks from B on. -/
def HoldF (B : Nat) (w : World) (u : Value) (v : Val) : Prop := ∃ cs : List Value, u = .agg cs.toArray ∧ HoldP (B ≤ ·) w cs v
theorem HoldF.hold {B : Nat} {w : World} {u : Value} {v : Val} (h : HoldF B w u v) : HoldV w u v := by
  obtain ⟨cs, hu, hc⟩ := h
  exact ⟨cs, hu, HoldP.hold v hc⟩
theorem HoldF.below {B : Nat} {w w' : World} {u : Value} {v : Val} (h : HoldF B w u v) (b : Below w.heap.size w w') : HoldF B w' u v := by
  obtain ⟨cs, hu, hc⟩ := h
  exact ⟨cs, hu, HoldP.keep b.size (fun g _ hg => b.block g hg) v hc⟩
theorem HoldF.mono {B B' : Nat} {w : World} {u : Value} {v : Val} (h : HoldF B w u v) (hB : B' ≤ B) : HoldF B' w u v := by
  obtain ⟨cs, hu, hc⟩ := h
  exact ⟨cs, hu, HoldP.mono (fun g h _ => Nat.le_trans hB h) v hc⟩
theorem holdP_len {X : Nat → Prop} {w : World} {cs : List Value} {v : Val} (h : HoldP X w cs v) : cs.length = 8 := by
  obtain ⟨k, i, n, s, ks, vs⟩ := v
  rw [HoldP] at h
  obtain ⟨uk, a, c, rfl, _⟩ := h
  rfl
theorem holdsP_of {X : Nat → Prop} {w : World} {g : Nat} : ∀ {vs : List Val} {off : Nat}, (∀ (i : Nat) (v : Val), vs[i]? = some v → ∃ cs, At8 w g (off + i * 8) cs ∧ HoldP X w cs v) → HoldsP X w g off vs
  | [], _, _ => by rw [HoldsP]; trivial
  | x :: r, off, h => by
    rw [HoldsP]
    refine ⟨by simpa using h 0 x rfl, holdsP_of fun i v hv => ?_⟩
    have := h (i + 1) v (by simpa using hv)
    rwa [show off + (i + 1) * 8 = off + 8 + i * 8 by omega] at this
/-- A row of values of the call's own: its block, and what each value holds, from B on; no value holds anything in the row's own block, nor in the block N. -/
def RowC (N : Option Nat) (B : Nat) (w : World) (u : Value) (vs : List Val) (cs : List (List Value)) : Prop :=
  cs.length = vs.length ∧ w.ownsRow B 29 8 u vs.length cs.flatten ∧ ∀ (i : Nat) (c : List Value) (v : Val), cs[i]? = some c → vs[i]? = some v → HoldP (fun g => B ≤ g ∧ u.ownBlock ≠ some g ∧ N ≠ some g) w c v
theorem RowC.nil (N : Option Nat) (B : Nat) (w : World) : RowC N B w (.slice none 0 0) [] [] := ⟨rfl, World.ownsRow_nil _ _ _ _, fun i c v h => by simp at h⟩
theorem RowC.below {N : Option Nat} {B : Nat} {w w' : World} {u : Value} {vs : List Val} {cs : List (List Value)} (h : RowC N B w u vs cs) (b : Below w.heap.size w w') : RowC N B w' u vs cs := by
  obtain ⟨hl, hown, hh⟩ := h
  refine ⟨hl, hown.kept (row := none) ⟨b.os, b.tape, b.output, b.size, fun k hk _ => b.block k hk⟩ ?_, fun i c v h1 h2 => HoldP.keep b.size (fun g _ hg => b.block g hg) v (hh i c v h1 h2)⟩
  cases u.ownBlock with
  | none => exact .inl rfl
  | some g => exact .inr (by simp)
/-- A step that turns one block below B. -/
theorem RowC.other {N : Option Nat} {B r : Nat} {w w' : World} {u : Value} {vs : List Val} {cs : List (List Value)} (h : RowC N B w u vs cs) (b : w.grownBy w' (some r)) (hr : r < B) : RowC N B w' u vs cs := by
  obtain ⟨hl, hown, hh⟩ := h
  refine ⟨hl, hown.kept b ?_, fun i c v h1 h2 => HoldP.keep b.size (fun g hg hlt => b.block g hlt (fun e => by cases e; omega)) v (hh i c v h1 h2)⟩
  rcases hown.2 with ⟨rfl, _⟩ | ⟨g, cap, cur, rfl, hg, _⟩
  · exact .inl rfl
  · refine .inr fun e => ?_
    have e' : g = r := by simpa [Value.ownBlock] using e
    omega
/-- A step that turns the block N alone, and may make a new one in its place. -/
theorem RowC.renew {N N' : Option Nat} {B : Nat} {w w' : World} {u : Value} {vs : List Val} {cs : List (List Value)} (h : RowC N B w u vs cs) (b : w.grownBy w' N) (hu : ∀ g, u.ownBlock = some g → N ≠ some g) (hN : ∀ g, N' = some g → N = some g ∨ g = w.heap.size) : RowC N' B w' u vs cs := by
  obtain ⟨hl, hown, hh⟩ := h
  refine ⟨hl, hown.kept b ?_, fun i c v h1 h2 => ?_⟩
  · cases e : u.ownBlock with
    | none => exact .inl rfl
    | some g => exact .inr (fun h => hu g e h.symm)
  · have h3 := HoldP.mono (Y := fun g => B ≤ g ∧ u.ownBlock ≠ some g ∧ N ≠ some g ∧ N' ≠ some g) (fun g hX hlt => ⟨hX.1, hX.2.1, hX.2.2, fun e => by
      rcases hN g e with e2 | e2
      · exact hX.2.2 e2
      · omega⟩) v (hh i c v h1 h2)
    exact HoldP.mono (fun g hX _ => ⟨hX.1, hX.2.1, hX.2.2.2⟩) v (HoldP.keep b.size (fun g hX hlt => b.block g hlt (fun e => hX.2.2.1 e.symm)) v h3)
/-- The row's own block is there already. -/
theorem RowC.own_lt {N : Option Nat} {B : Nat} {w : World} {u : Value} {vs : List Val} {cs : List (List Value)} (h : RowC N B w u vs cs) : ∀ g, u.ownBlock = some g → B ≤ g ∧ g < w.heap.size := by
  obtain ⟨hl, hown, _⟩ := h
  intro g hg
  rcases hown.2 with ⟨rfl, _⟩ | ⟨g', cap, cur, rfl, hg', hb, _⟩
  · cases hg
  · have e : g' = g := by simpa [Value.ownBlock] using hg
    subst e
    exact ⟨hg', lt_of_heap hb⟩
/-- What an append leaves. -/
theorem RowC.push {N : Option Nat} {B S : Nat} {w w' : World} {u u' : Value} {vs : List Val} {v : Val} {c : List Value} {cs : List (List Value)} {g' : Nat} (h : RowC N B w u vs cs) (hv : HoldP (S ≤ ·) w c v) (hB : B ≤ S) (hS : ∀ g, u.ownBlock = some g → g < S) (hN : ∀ g, N = some g → g < S)
    (hown : w'.ownsRow B 29 8 u' (vs.length + 1) (cs.flatten ++ c)) (hg : w.grownBy w' u.ownBlock) (hu : u'.ownBlock = some g') (hg' : u.ownBlock = some g' ∨ g' = w.heap.size) : RowC N B w' u' (vs ++ [v]) (cs ++ [c]) := by
  obtain ⟨hl, _, hh⟩ := h
  have fin : ∀ {c3 : List Value} {v3 : Val}, HoldP (fun g => B ≤ g ∧ u.ownBlock ≠ some g ∧ u'.ownBlock ≠ some g ∧ N ≠ some g) w c3 v3 → HoldP (fun g => B ≤ g ∧ u'.ownBlock ≠ some g ∧ N ≠ some g) w' c3 v3 := fun {c3 v3} hc =>
    HoldP.mono (fun g h _ => ⟨h.1, h.2.2.1, h.2.2.2⟩) v3 (HoldP.keep hg.size (fun g hX hlt => hg.block g hlt (fun e => hX.2.1 e.symm)) v3 hc)
  have hne : ∀ g, u.ownBlock ≠ some g → g < w.heap.size → u'.ownBlock ≠ some g := fun g h1 h2 e => by
    rw [hu] at e
    cases e
    rcases hg' with e | e
    · exact h1 e
    · omega
  refine ⟨by simp [hl], by simpa using hown, fun i c2 v2 h1 h2 => ?_⟩
  by_cases hi : i < cs.length
  · rw [List.getElem?_append_left hi] at h1
    rw [List.getElem?_append_left (by omega)] at h2
    exact fin (HoldP.mono (fun g hX hlt => ⟨hX.1, hX.2.1, hne g hX.2.1 hlt, hX.2.2⟩) v2 (hh i c2 v2 h1 h2))
  · have hi' : i = cs.length := by
      have := (List.getElem?_eq_some_iff.1 h1).1
      simp at this
      omega
    subst hi'
    rw [List.getElem?_append_right (Nat.le_refl _)] at h1
    rw [List.getElem?_append_right (by omega)] at h2
    rw [Nat.sub_self] at h1
    rw [show cs.length - vs.length = 0 by omega] at h2
    simp at h1 h2
    subst h1; subst h2
    have own : ∀ g, S ≤ g → u.ownBlock ≠ some g := fun g h e => by have := hS g e; omega
    exact fin (HoldP.mono (fun g hX hlt => ⟨Nat.le_trans hB hX, own g hX, hne g (own g hX) hlt, fun e => by have : S ≤ g := hX; have := hN g e; omega⟩) v hv)
theorem flatten_at {α : Type} : ∀ {cs : List (List α)} {i j : Nat} {c : List α}, (∀ x ∈ cs, x.length = 8) → cs[i]? = some c → j < 8 → cs.flatten[i * 8 + j]? = c[j]?
  | [], _, _, _, _, h, _ => by simp at h
  | x :: r, 0, j, c, hl, h, hj => by
    simp at h
    subst h
    rw [List.flatten_cons, List.getElem?_append_left (by rw [hl x (by simp)]; omega)]
    simp
  | x :: r, i + 1, j, c, hl, h, hj => by
    have ih := flatten_at (cs := r) (i := i) (j := j) (c := c) (fun y hy => hl y (by simp [hy])) (by simpa using h) hj
    have hx := hl x (by simp)
    rw [List.flatten_cons, List.getElem?_append_right (by omega), ← ih]
    congr 1
    omega
/-- What the row holds, as the kids of a value. -/
theorem RowC.holds {N : Option Nat} {B : Nat} {w : World} {u : Value} {vs : List Val} {cs : List (List Value)} (h : RowC N B w u vs cs) : ∃ a c, u = .slice a vs.length c ∧ vs.length ≤ c ∧ c ≤ 9223372036854775807 ∧ (vs = [] ∨ ∃ g off, a = some ⟨g, off, none⟩ ∧ B ≤ g ∧ g < w.heap.size ∧ HoldsP (B ≤ ·) w g off vs) := by
  obtain ⟨hl, hown, hh⟩ := h
  have h8 : ∀ x ∈ cs, x.length = 8 := fun x hx => by
    obtain ⟨i, hi, e⟩ := List.mem_iff_getElem.1 hx
    exact holdP_len (hh i x (vs[i]'(by omega)) (by rw [List.getElem?_eq_getElem hi, e]) (List.getElem?_eq_getElem (by omega)))
  rcases hown.2 with ⟨rfl, h0⟩ | ⟨g, cap, cur, rfl, hg, hb, hcap, hmax, hsz, htk⟩
  · have e0 : vs = [] := List.length_eq_zero_iff.1 h0
    subst e0
    exact ⟨none, 0, rfl, Nat.le_refl _, by omega, .inl rfl⟩
  · have hmx : cap ≤ 9223372036854775807 := by
      have := hmax
      unfold maxLen at this
      omega
    refine ⟨some ⟨g, 0, none⟩, cap, rfl, hcap, hmx, .inr ⟨g, 0, rfl, hg, lt_of_heap hb, holdsP_of fun i v hi => ?_⟩⟩
    have hil : i < vs.length := (List.getElem?_eq_some_iff.1 hi).1
    have hic : i < cs.length := by omega
    have hci : cs[i]? = some cs[i] := List.getElem?_eq_getElem hic
    have hP := hh i cs[i] v hci hi
    refine ⟨cs[i], ⟨holdP_len hP, fun j hj => ?_⟩, HoldP.mono (fun g h _ => h.1) v hP⟩
    have hfl := flatten_at h8 hci hj
    rw [← htk, List.getElem?_take, if_pos (by omega)] at hfl
    rw [cell_of hb, ← hfl, Nat.zero_add, ← Array.getElem?_toList]
/-- A row of texts of the call's own. -/
def RowT (B : Nat) (w : World) (u : Value) (ls : List (List UInt8)) : Prop := w.ownsRow B 9 1 u ls.length (ls.map fun l => .string (txt l))
theorem RowT.holds {B : Nat} {w : World} {u : Value} {ls : List (List UInt8)} (h : RowT B w u ls) : KsP (B ≤ ·) w u ls := by
  rcases h.2 with ⟨rfl, h0⟩ | ⟨g, cap, cur, rfl, hg, hb, hcap, hmax, hsz, htk⟩
  · have e0 : ls = [] := List.length_eq_zero_iff.1 h0
    subst e0
    exact ⟨none, 0, rfl, Nat.le_refl _, by omega, .inl rfl⟩
  · have hmx : cap ≤ 9223372036854775807 := by
      have := hmax
      unfold maxLen at this
      omega
    refine ⟨some ⟨g, 0, none⟩, cap, rfl, hcap, hmx, .inr ⟨g, 0, rfl, hg, lt_of_heap hb, fun i l hi => ?_⟩⟩
    have hil : i < ls.length := (List.getElem?_eq_some_iff.1 hi).1
    have hm : (ls.map fun l => Value.string (txt l))[i]? = some (.string (txt l)) := by rw [List.getElem?_map, hi]; rfl
    rw [← htk, List.getElem?_take, if_pos (by omega)] at hm
    rw [cell_of hb, Nat.zero_add, ← hm, ← Array.getElem?_toList]
end Go.Proofs.YtlfbnfphocpgeaaGreatDoor.Tre
namespace Go.Proofs.YtlfbnfphocpgeaaGreatDoor.Tre
open Go.RowKit Kit Txt
open Num (Dec zero)
def zeroV : Value := .agg #[.int .i64 0, .bool false, .bool false, .string ⟨#[]⟩, .int .i64 0, .string ⟨#[]⟩, .slice none 0 0, .slice none 0 0]
theorem infoValue : (Tryz.prog.info? 29).map (fun i => (i.zero, i.size, i.bytes)) = some (some zeroV, 8, 112) := by kernel_rfl
theorem infoText : (Tryz.prog.info? 9).map (fun i => (i.zero, i.size, i.bytes)) = some (some (.string ⟨#[]⟩), 1, 16) := by kernel_rfl
theorem holdP_one {X : Nat → Prop} {w : World} {c : List Value} {v : Val} (h : HoldP X w c v) : ∀ u ∈ c, u.oneCell' = true := by
  obtain ⟨k, i, n, s, ks, vs⟩ := v
  rw [HoldP] at h
  obtain ⟨uk, a, cp, rfl, ⟨pk, ck, rfl, _⟩, _⟩ := h
  intro u hu
  simp only [cellsV, List.mem_cons, List.not_mem_nil, or_false] at hu
  rcases hu with rfl | rfl | rfl | rfl | rfl | rfl | rfl | rfl <;> rfl
theorem addr_at (N j : Nat) : (⟨N, 0, none⟩ : Addr).add j = ⟨N, j, none⟩ := by unfold Addr.add; split <;> simp_all
theorem wp_push {ops : Array Oper} {rest : List Oper} {o : Oper} {a : Act} {w : World} {Q : Exit → Act → World → Prop} (hgd : o.guard = none) (s x : Operand)
    (ho : o.op = .call { callee := .builtin .append, args := #[s, x], argTypes := #[27, 27] }) {M : Option Nat} (B S : Nat) {u : Value} {vs : List Val} {cs : List (List Value)} {v : Val} {c : List Value} {N cap m : Nat} (hm : vs.length = m) (hs : a.eval s = u) (hx : a.eval x = .slice (some ⟨N, 0, none⟩) 1 cap)
    (hN : ∀ j, j < 8 → w.cell? ⟨N, j, none⟩ = c[j]?) (h : RowC M B w u vs cs) (hv : HoldP (S ≤ ·) w c v) (hB : B ≤ S) (hS : ∀ g, u.ownBlock = some g → g < S) (hM : ∀ g, M = some g → g < S) (hn : m < 1000000) (hbw : B ≤ w.heap.size)
    (hK : ∀ g cap' w', RowC M B w' (.slice (some ⟨g, 0, none⟩) (m + 1) cap') (vs ++ [v]) (cs ++ [c]) → w.grownBy w' u.ownBlock → wpList Tryz.prog ops Q rest (a.put o.dst (.slice (some ⟨g, 0, none⟩) (m + 1) cap')) w') :
    wpList Tryz.prog ops Q (o :: rest) a w := by
  subst hm
  obtain ⟨i0, hi, hz0, hz1, hz2⟩ := info_parts infoValue
  have hc8 := holdP_len hv
  refine wpList_append_lies w hgd s x 27 ho B 29 i0 zeroV 8 112 Tryz.underlying27 hi hz0 hz1 hz2 rfl (by decide) u vs.length cs.flatten hs h.2.1 ⟨N, 0, none⟩ 1 cap c hx (by omega) ?_ (holdP_one hv) (by decide) (by unfold maxLen; omega) (by omega) hbw w.heap.size rfl ?_
  · intro j y hy
    rw [addr_at, hN j (by have := (List.getElem?_eq_some_iff.1 hy).1; omega), hy]
  · intro g cap' w' h2 h3 h4 _
    exact hK g cap' w' (h.push hv hB hS hM h2 h3 rfl h4) h3
theorem RowT.nil (B : Nat) (w : World) : RowT B w (.slice none 0 0) [] := World.ownsRow_nil _ _ _ _
theorem RowT.below {B : Nat} {w w' : World} {u : Value} {ls : List (List UInt8)} (h : RowT B w u ls) (b : Below w.heap.size w w') : RowT B w' u ls := by
  refine World.ownsRow.kept h (row := none) ⟨b.os, b.tape, b.output, b.size, fun k hk _ => b.block k hk⟩ ?_
  cases u.ownBlock with
  | none => exact .inl rfl
  | some g => exact .inr (by simp)
theorem RowT.other {B r : Nat} {w w' : World} {u : Value} {ls : List (List UInt8)} (h : RowT B w u ls) (b : w.grownBy w' (some r)) (hr : r < B) : RowT B w' u ls := by
  refine World.ownsRow.kept h b ?_
  rcases h.2 with ⟨rfl, _⟩ | ⟨g, cap, cur, rfl, hg, _⟩
  · exact .inl rfl
  · refine .inr fun e => ?_
    have e' : g = r := by simpa [Value.ownBlock] using e
    omega
theorem step_pushT {ops : Array Oper} {o : Oper} {a : Act} {w : World} {K : Act → World → Prop} {Q : Exit → Act → World → Prop} {E : Prop} (hgd : o.guard = none) (s x : Operand)
    (ho : o.op = .call { callee := .builtin .append, args := #[s, x], argTypes := #[26, 26] }) (B : Nat) {u : Value} {ls : List (List UInt8)} {l : List UInt8} {N cap m : Nat} (hm : ls.length = m) (hs : a.eval s = u) (hx : a.eval x = .slice (some ⟨N, 0, none⟩) 1 cap)
    (hN : w.cell? ⟨N, 0, none⟩ = some (.string (txt l))) (h : RowT B w u ls) (hn : m < 1000000) (hbw : B ≤ w.heap.size)
    (hK : ∀ g cap' w', RowT B w' (.slice (some ⟨g, 0, none⟩) (m + 1) cap') (ls ++ [l]) → w.grownBy w' u.ownBlock → (u.ownBlock = some g ∨ g = w.heap.size) → K (a.put o.dst (.slice (some ⟨g, 0, none⟩) (m + 1) cap')) w') :
    if Region.wanted o (yielded ops a.tmps) = true then Oper.wp Tryz.prog o a w K Q else E := by
  subst hm
  obtain ⟨i0, hi, hz0, hz1, hz2⟩ := info_parts infoText
  refine step_append_lies w hgd s x 26 ho B 9 i0 (.string ⟨#[]⟩) 1 16 Tryz.underlying26 hi hz0 hz1 hz2 rfl (by decide) u ls.length _ hs h ⟨N, 0, none⟩ 1 cap [.string (txt l)] hx rfl ?_ (by simp [Value.oneCell']) (by decide) (by unfold maxLen; omega) (by omega) hbw w.heap.size rfl ?_
  · intro j y hy
    match j with
    | 0 =>
      simp at hy
      subst hy
      rw [addr_at, hN]
    | j + 1 => simp at hy
  · intro g cap' w' h2 h3 h4 _
    refine hK g cap' w' ?_ h3 h4
    unfold RowT
    rw [List.map_append, List.length_append]
    exact h2
end Go.Proofs.YtlfbnfphocpgeaaGreatDoor.Tre
namespace Go.Proofs.YtlfbnfphocpgeaaGreatDoor.Jdec
open Go.RowKit Kit Txt
open Utf (nb)
/-- What is told, of n bytes: eight cells of a value (C: what they hold), a place behind it, no error; or an error. -/
def TellE {α : Type} (C : Value → α → Prop) (n : Nat) (g : Got α) (e : Ending) : Prop :=
  ∃ (k0 : Int) (b0 b1 : Bool) (d : ByteArray) (x0 : Int) (t : ByteArray) (a1 : Option Addr) (n1 m1 : Nat) (a2 : Option Addr) (n2 m2 : Nat) (a p k : Int), e = .returned (.agg #[.int .i64 k0, .bool b0, .bool b1, .string d, .int .i64 x0, .string t, .slice a1 n1 m1, .slice a2 n2 m2, .int .i64 a, .int .i64 p, .int .i64 k]) ∧
    ((∃ x r, g = .ok x r ∧ a = ((n - r.length : Nat) : Int) ∧ k = 0 ∧ C (.agg #[.int .i64 k0, .bool b0, .bool b1, .string d, .int .i64 x0, .string t, .slice a1 n1 m1, .slice a2 n2 m2]) x) ∨ ((∃ r j, g = .no r j) ∧ k ≠ 0))
theorem TellE.bad {α : Type} {C : Value → α → Prop} {n j : Nat} {g : Got α} {r : List UInt8} (h : g = .no r j) {p k : Int} (hk : k ≠ 0) : TellE C n g (.returned (badV p k)) := ⟨_, _, _, _, _, _, _, _, _, _, _, _, _, _, _, rfl, .inr ⟨⟨r, j, h⟩, hk⟩⟩
theorem TellE.good {α : Type} {C : Value → α → Prop} {n : Nat} {g : Got α} {x : α} {r : List UInt8} (h : g = .ok x r) {k0 : Int} {b0 b1 : Bool} {d : ByteArray} {x0 : Int} {t : ByteArray} {a1 : Option Addr} {n1 m1 : Nat} {a2 : Option Addr} {n2 m2 : Nat} {a p : Int} (ha : a = ((n - r.length : Nat) : Int)) (hC : C (.agg #[.int .i64 k0, .bool b0, .bool b1, .string d, .int .i64 x0, .string t, .slice a1 n1 m1, .slice a2 n2 m2]) x) :
    TellE C n g (.returned (.agg #[.int .i64 k0, .bool b0, .bool b1, .string d, .int .i64 x0, .string t, .slice a1 n1 m1, .slice a2 n2 m2, .int .i64 a, .int .i64 p, .int .i64 0])) := ⟨_, _, _, _, _, _, _, _, _, _, _, _, _, _, _, rfl, .inl ⟨x, r, h, ha, rfl, hC⟩⟩
theorem hold_flat {B : Nat} {w : World} (k : Int) (i : Bool) (n : Num.Dec) (s : List UInt8) : Tre.HoldF B w (.agg #[.int .i64 k, .bool i, .bool n.neg, .string (txt n.dig), .int .i64 n.exp, .string (txt s), .slice none 0 0, .slice none 0 0]) ⟨k, i, n, s, [], []⟩ := ⟨_, rfl, by
  rw [Tre.HoldP]
  exact ⟨_, none, 0, rfl, ⟨none, 0, rfl, Nat.le_refl _, by omega, .inl rfl⟩, Nat.le_refl _, by omega, .inl rfl⟩⟩
theorem wordR_end (v : Tre.Val) {W l : List UInt8} {i q : Nat} (h : W.length ≤ i) : word v (W.drop i) (l.drop q) = .ok v (l.drop q) := by
  rw [List.drop_eq_nil_of_le h, word]
theorem word_short (v : Tre.Val) {W l : List UInt8} {i q : Nat} (h : i < W.length) (hq : l.length ≤ q) : word v (W.drop i) (l.drop q) = .no (l.drop q) 2 := by
  rw [List.drop_eq_getElem_cons h, List.drop_eq_nil_of_le hq, word]
theorem word_on (v : Tre.Val) {W l : List UInt8} {i q : Nat} (h : i < W.length) (hq : q < l.length) : word v (W.drop i) (l.drop q) = if nb l q = nb W i then word v (W.drop (i + 1)) (l.drop (q + 1)) else .no (l.drop q) 3 := by
  rw [nb_get h, nb_get hq, List.drop_eq_getElem_cons h, List.drop_eq_getElem_cons hq, word]
  have e : (l[q] = W[i] ↔ l[q].toNat = W[i].toNat) := ⟨fun e => by rw [e], fun e => UInt8.toNat_inj.1 e⟩
  simp only [e]
set_option maxRecDepth 100000 in
set_option maxHeartbeats 1500000 in
theorem rnumber_tells {w : World} {l : List UInt8} {q : Nat} (hl : l.length < 100000) (hq : q ≤ l.length) :
    Calls Tryz.prog 36 #[.string (txt l), .int .i64 q] w fun e w' => TellE (Tre.HoldF w.heap.size w') l.length (number (l.drop q)) e ∧ Below w.heap.size w w' := by
  have hs := txt_size l
  have hsl := slL (l := l) (z := (q : Int)) (k := q) rfl hq
  have hdl : (l.drop q).length = l.length - q := List.length_drop
  have hsm := fun (n : Nat) (hn : q + n ≤ l.length) => slM (l := l) (y := (q : Int)) (z := (q : Int) + (n : Int)) (i := q) (j := q + n) rfl (by omega) (by omega) hn
  have hnl := num_le (l.drop q)
  have hsc := fun (wx : World) => Num.scan_any (w := wx) (l := l.drop q) (by omega)
  have hpa := fun (wx : World) => Num.rparse_any (w := wx) (l := (l.drop q).take (Num.scan (l.drop q))) (by rw [List.length_take]; omega)
  have hb := fun (wx : World) (x : Int) => rbad_any (w := wx) (p := q) (e := x)
  simp only [badV] at hb
  have hnum : number (l.drop q) = if Num.scan (l.drop q) = 0 then (if (l.drop q).length = 1 then .no (l.drop q) 2 else .no (l.drop q) 3)
      else if (Num.parse ((l.drop q).take (Num.scan (l.drop q)))).2 ≠ 0 then .no (l.drop q) (Num.parse ((l.drop q).take (Num.scan (l.drop q)))).2
      else .ok ⟨3, false, (Num.parse ((l.drop q).take (Num.scan (l.drop q)))).1, [], [], []⟩ ((l.drop q).drop (Num.scan (l.drop q))) := rfl
  have hA := World.alloc_heap_new w (.cells #[.int .i64 0, .bool false, .bool false, .string ⟨#[]⟩, .int .i64 0, .string ⟨#[]⟩, .slice none 0 0, .slice none 0 0, .int .i64 0, .int .i64 0, .int .i64 0] 31)
  have bA : Below w.heap.size w (w.alloc (.cells #[.int .i64 0, .bool false, .bool false, .string ⟨#[]⟩, .int .i64 0, .string ⟨#[]⟩, .slice none 0 0, .slice none 0 0, .int .i64 0, .int .i64 0, .int .i64 0] 31)) := (Below.refl _ w).alloc (Nat.le_refl _) _
  have hq1 : IntKind.i64.wrap ((q : Int) + 1) = (q : Int) + 1 := by simp only [IntKind.wrap, IntKind.signed, IntKind.bits]; simp; omega
  have hdd : ((l.drop q).drop (Num.scan (l.drop q))).length = l.length - q - Num.scan (l.drop q) := by rw [List.length_drop, hdl]
  generalize number (l.drop q) = gg at *
  generalize (l.drop q).drop (Num.scan (l.drop q)) = rr at *
  have hse : ∀ n, (q + n - q) = n := fun n => by omega
  by_cases h0 : Num.scan (l.drop q) = 0
  · rw [if_pos h0] at hnum
    rw [h0] at hsc
    have HN := Lib.hid hnum
    have HDL := Lib.hid hdl
    clear hnum hsm hpa hnl hdd hdl
    generalize l.drop q = t at *
    by_cases h1 : q + 1 = l.length
    · have d1 : ((q : Int) + 1 == (l.length : Int)) = true := by simp; omega
      have fin : ∀ (C : Value → Tre.Val → Prop) (p : Int), TellE C l.length gg (.returned (badV p 2)) := fun C p => .bad (r := t) (j := 2) (by rw [HN.out, if_pos (by rw [HDL.out]; omega)]) (by decide)
      have HF := Lib.hid fin
      clear fin
      go_enter Tryz.func36, Tryz.ntmps36
      go_wp2_with fail
      refine (hsc _).mono ?_
      rintro e w1 ⟨rfl, rfl⟩
      go_wp2_with fail
      refine (hb _ 2).mono ?_
      rintro e w2 ⟨rfl, k2⟩
      have hA2 := (k2.block _ (lt_of_heap hA)).trans hA
      have b2 := bA.trans (k2.mono bA.size)
      have h9 := set11 hA2 (.int .i64 0) (.bool false) (.bool false) (.string ⟨#[]⟩) (.int .i64 0) (.string ⟨#[]⟩) (.slice none 0 0) (.slice none 0 0) (.int .i64 0) (.int .i64 q) (.int .i64 2)
      have b9 := below11 b2 (Nat.le_refl _) (.int .i64 0) (.bool false) (.bool false) (.string ⟨#[]⟩) (.int .i64 0) (.string ⟨#[]⟩) (.slice none 0 0) (.slice none 0 0) (.int .i64 0) (.int .i64 q) (.int .i64 2)
      obtain ⟨d0, d1, d2, d3, d4, d5, d6, d7, d8, d9, d10⟩ := eleven h9
      obtain ⟨c0, c1, c2, c3, c4, c5, c6, c7, c8, c9, c10⟩ := eleven hA2
      have qf := free_of hA2
      clear h9 hA hA2
      go_wp2_with fail
      refine bodyPost_ret (v := badV q 2) (by simp [results, Tryz.results36, go_sem, badV, d0, d1, d2, d3, d4, d5, d6, d7, d8, d9, d10]) rfl ⟨HF.out _ _, b9⟩
    · have d1 : ((q : Int) + 1 == (l.length : Int)) = false := by simp; omega
      have fin : ∀ (C : Value → Tre.Val → Prop) (p : Int), TellE C l.length gg (.returned (badV p 3)) := fun C p => .bad (r := t) (j := 3) (by rw [HN.out, if_neg (by rw [HDL.out]; omega)]) (by decide)
      have HF := Lib.hid fin
      clear fin
      go_enter Tryz.func36, Tryz.ntmps36
      go_wp2_with fail
      refine (hsc _).mono ?_
      rintro e w1 ⟨rfl, rfl⟩
      go_wp2_with fail
      refine (hb _ 3).mono ?_
      rintro e w2 ⟨rfl, k2⟩
      have hA2 := (k2.block _ (lt_of_heap hA)).trans hA
      have b2 := bA.trans (k2.mono bA.size)
      have h9 := set11 hA2 (.int .i64 0) (.bool false) (.bool false) (.string ⟨#[]⟩) (.int .i64 0) (.string ⟨#[]⟩) (.slice none 0 0) (.slice none 0 0) (.int .i64 0) (.int .i64 q) (.int .i64 3)
      have b9 := below11 b2 (Nat.le_refl _) (.int .i64 0) (.bool false) (.bool false) (.string ⟨#[]⟩) (.int .i64 0) (.string ⟨#[]⟩) (.slice none 0 0) (.slice none 0 0) (.int .i64 0) (.int .i64 q) (.int .i64 3)
      obtain ⟨d0, d1, d2, d3, d4, d5, d6, d7, d8, d9, d10⟩ := eleven h9
      obtain ⟨c0, c1, c2, c3, c4, c5, c6, c7, c8, c9, c10⟩ := eleven hA2
      have qf := free_of hA2
      clear h9 hA hA2
      go_wp2_with fail
      refine bodyPost_ret (v := badV q 3) (by simp [results, Tryz.results36, go_sem, badV, d0, d1, d2, d3, d4, d5, d6, d7, d8, d9, d10]) rfl ⟨HF.out _ _, b9⟩
  · rw [if_neg h0] at hnum
    have hsm := hsm (Num.scan (l.drop q)) (by omega)
    rw [hse] at hsm
    generalize hn : Num.scan (l.drop q) = n at *
    have hn0 : ((n : Int) == 0) = false := by simp; omega
    have hqn : IntKind.i64.wrap ((q : Int) + (n : Int)) = (q : Int) + (n : Int) := by simp only [IntKind.wrap, IntKind.signed, IntKind.bits]; simp; omega
    have hqn2 : (q : Int) + (n : Int) = ((l.length - rr.length : Nat) : Int) := by rw [hdd]; omega
    generalize (l.drop q).take n = tn at *
    generalize l.drop q = t at *
    unfold Num.parseV Num.numV at hpa
    generalize (Num.parse tn) = pr at *
    obtain ⟨d, k⟩ := pr
    dsimp only at hnum hpa
    obtain ⟨td, htd⟩ : ∃ td, Num.txt d.dig = td := ⟨_, rfl⟩
    simp only [htd] at hpa
    have HTD := Lib.hid htd
    clear htd
    have hAx := fun (c : Value) => hA
    by_cases hk : k = 0
    · rw [if_neg (by simpa using hk)] at hnum
      subst hk
      have HN := Lib.hid hnum
      have HQ := Lib.hid hqn2
      clear hnum hqn2 hdd hdl hnl hn hAx
      go_enter Tryz.func36, Tryz.ntmps36
      go_wp2_with fail
      refine (hsc _).mono ?_
      rintro e w1 ⟨rfl, rfl⟩
      go_wp2_with fail
      refine (hpa _).mono ?_
      rintro e w2 ⟨rfl, k2⟩
      have hA2 := new_of ((k2.block _ (lt_of_heap hA)).trans hA) (.cells #[.bool d.neg, .string td, .int .i64 d.exp] 25)
      have b2 := (bA.trans (k2.mono bA.size)).alloc (bA.trans (k2.mono bA.size)).size (.cells #[.bool d.neg, .string td, .int .i64 d.exp] 25)
      have hN := World.alloc_heap_new w2 (.cells #[.bool d.neg, .string td, .int .i64 d.exp] 25)
      have hwl := lt_of_heap ((k2.block _ (lt_of_heap hA)).trans hA)
      have HA2 := Lib.hid hA2
      have HB2 := Lib.hid b2
      have HN2 := Lib.hid hN
      clear hA hA2 hN k2 b2 bA
      go_upto_region 7 with fail
      obtain ⟨W, hW⟩ : ∃ W, w2.alloc (.cells #[.bool d.neg, .string td, .int .i64 d.exp] 25) = W := ⟨_, rfl⟩
      have hA2 := HA2.out
      have hN := HN2.out
      have b2 := HB2.out
      clear HA2 HN2 HB2
      rw [hW] at hA2 hN b2
      rw [hW]
      clear hW
      obtain ⟨n0, n1, n2⟩ := three hN
      have h9 := set11 hA2 (.int .i64 3) (.bool false) (.bool d.neg) (.string td) (.int .i64 d.exp) (.string ⟨#[]⟩) (.slice none 0 0) (.slice none 0 0) (.int .i64 ((q : Int) + (n : Int))) (.int .i64 0) (.int .i64 0)
      have b9 := below11 b2 (Nat.le_refl _) (.int .i64 3) (.bool false) (.bool d.neg) (.string td) (.int .i64 d.exp) (.string ⟨#[]⟩) (.slice none 0 0) (.slice none 0 0) (.int .i64 ((q : Int) + (n : Int))) (.int .i64 0) (.int .i64 0)
      obtain ⟨d0, d1, d2, d3, d4, d5, d6, d7, d8, d9, d10⟩ := eleven h9
      obtain ⟨c0, c1, c2, c3, c4, c5, c6, c7, c8, c9, c10⟩ := eleven hA2
      have qf := free_of hA2
      clear h9 hA2 hN b2
      go_wp2_with fail
      refine bodyPost_ret (v := .agg #[.int .i64 3, .bool false, .bool d.neg, .string td, .int .i64 d.exp, .string ⟨#[]⟩, .slice none 0 0, .slice none 0 0, .int .i64 ((q : Int) + (n : Int)), .int .i64 0, .int .i64 0]) (by simp [results, Tryz.results36, go_sem, d0, d1, d2, d3, d4, d5, d6, d7, d8, d9, d10]) rfl ⟨.good HN.out HQ.out (by rw [← HTD.out]; exact hold_flat 3 false d []), b9⟩
    · rw [if_pos (by simpa using hk)] at hnum
      have hk1 : (((k : Nat) : Int) != 0) = true := by simp; omega
      have fin : ∀ (C : Value → Tre.Val → Prop) (p : Int), TellE C l.length gg (.returned (badV p k)) := fun C p => .bad hnum (by omega)
      have HF := Lib.hid fin
      clear hnum hqn2 hdd hdl hnl hn hAx fin
      go_enter Tryz.func36, Tryz.ntmps36
      go_wp2_with fail
      refine (hsc _).mono ?_
      rintro e w1 ⟨rfl, rfl⟩
      go_wp2_with fail
      refine (hpa _).mono ?_
      rintro e w2 ⟨rfl, k2⟩
      have hA2 := new_of ((k2.block _ (lt_of_heap hA)).trans hA) (.cells #[.bool d.neg, .string td, .int .i64 d.exp] 25)
      have b2 := (bA.trans (k2.mono bA.size)).alloc (bA.trans (k2.mono bA.size)).size (.cells #[.bool d.neg, .string td, .int .i64 d.exp] 25)
      have hwl := lt_of_heap ((k2.block _ (lt_of_heap hA)).trans hA)
      have HA2 := Lib.hid hA2
      have HB2 := Lib.hid b2
      clear hA hA2 k2 b2 bA
      go_upto_region 7 with fail
      obtain ⟨W, hW⟩ : ∃ W, w2.alloc (.cells #[.bool d.neg, .string td, .int .i64 d.exp] 25) = W := ⟨_, rfl⟩
      have hA2 := HA2.out
      have b2 := HB2.out
      clear HA2 HB2
      rw [hW] at hA2 b2
      rw [hW]
      clear hW
      go_wp2_with fail
      refine (hb _ k).mono ?_
      rintro e w3 ⟨rfl, k3⟩
      have hA3 := (k3.block _ (lt_of_heap hA2)).trans hA2
      have b3 := b2.trans (k3.mono b2.size)
      have h9 := set11 hA3 (.int .i64 0) (.bool false) (.bool false) (.string ⟨#[]⟩) (.int .i64 0) (.string ⟨#[]⟩) (.slice none 0 0) (.slice none 0 0) (.int .i64 0) (.int .i64 q) (.int .i64 k)
      have b9 := below11 b3 (Nat.le_refl _) (.int .i64 0) (.bool false) (.bool false) (.string ⟨#[]⟩) (.int .i64 0) (.string ⟨#[]⟩) (.slice none 0 0) (.slice none 0 0) (.int .i64 0) (.int .i64 q) (.int .i64 k)
      obtain ⟨d0, d1, d2, d3, d4, d5, d6, d7, d8, d9, d10⟩ := eleven h9
      obtain ⟨c0, c1, c2, c3, c4, c5, c6, c7, c8, c9, c10⟩ := eleven hA3
      have qf := free_of hA3
      clear h9 hA2 hA3 k3 b3 b2
      go_wp2_with fail
      refine bodyPost_ret (v := badV q k) (by simp [results, Tryz.results36, go_sem, badV, d0, d1, d2, d3, d4, d5, d6, d7, d8, d9, d10]) rfl ⟨HF.out _ _, b9⟩
end Go.Proofs.YtlfbnfphocpgeaaGreatDoor.Jdec
namespace Go.Proofs.YtlfbnfphocpgeaaGreatDoor.Jdec
open Go.RowKit Kit Txt
open Utf (nb)
/-- The reader in block R is at q in s, so many brackets are open; its table is u. -/
def Rdr (R : Nat) (s : List UInt8) (q : Nat) (o : Int) (u : Value) (w : World) : Prop := w.heap[R]? = some (.cells #[.string (txt s), .int .i64 q, .int .i64 o, u] 55 (0, 0))
def rp (R : Nat) : Value := .pointer (some ⟨R, 0, none⟩)
theorem Rdr.goes {R : Nat} {s : List UInt8} {q : Nat} {o : Int} {u : Value} {w : World} (h : Rdr R s q o u w) (q' : Nat) : Rdr R s q' o u (w.setCell ⟨R, 1, none⟩ (.int .i64 q')) := set_of h 1 _
theorem Rdr.opens {R : Nat} {s : List UInt8} {q : Nat} {o : Int} {u : Value} {w : World} (h : Rdr R s q o u w) (o' : Int) : Rdr R s q o' u (w.setCell ⟨R, 2, none⟩ (.int .i64 o')) := set_of h 2 _
theorem Rdr.kept {R : Nat} {s : List UInt8} {q : Nat} {o : Int} {u : Value} {w w' : World} {row : Option Nat} (h : Rdr R s q o u w) (k : w.grownBy w' row) (hr : some R ≠ row) : Rdr R s q o u w' := (k.block R (lt_of_heap h) hr).trans h
theorem Rdr.below {R : Nat} {s : List UInt8} {q : Nat} {o : Int} {u : Value} {w w' : World} (h : Rdr R s q o u w) (k : Below w.heap.size w w') : Rdr R s q o u w' := (k.block R (lt_of_heap h)).trans h
theorem four {W : World} {g : Nat} {a b c d : Value} {t : TypeId} {fr : Nat × Nat} (h : W.heap[g]? = some (.cells #[a, b, c, d] t fr)) : W.cell? ⟨g, 0, none⟩ = some a ∧ W.cell? ⟨g, 1, none⟩ = some b ∧ W.cell? ⟨g, 2, none⟩ = some c ∧ W.cell? ⟨g, 3, none⟩ = some d :=
  ⟨cell_of h 0, cell_of h 1, cell_of h 2, cell_of h 3⟩
theorem grown_trans {a b c : World} {row : Option Nat} (h : a.grownBy b row) (k : b.grownBy c row) : a.grownBy c row :=
  ⟨k.os.trans h.os, k.tape.trans h.tape, k.output.trans h.output, Nat.le_trans h.size k.size, fun i hi hr => (k.block i (Nat.lt_of_lt_of_le hi h.size) hr).trans (h.block i hi hr)⟩
theorem grown_below {a b c : World} {row : Option Nat} (h : a.grownBy b row) (k : Below b.heap.size b c) : a.grownBy c row :=
  ⟨k.os.trans h.os, k.tape.trans h.tape, k.output.trans h.output, Nat.le_trans h.size k.size, fun i hi hr => (k.block i (Nat.lt_of_lt_of_le hi h.size)).trans (h.block i hi hr)⟩
theorem grown_cell (w : World) (b i : Nat) (v : Value) : w.grownBy (w.setCell ⟨b, i, none⟩ v) (some b) :=
  ⟨rfl, rfl, rfl, (KeepsWalks.setCell w _ v).size, fun k _ hk => Below.heap_setCell _ _ _ k (fun e => hk (by rw [e]))⟩
theorem drew_below (w : World) : Below w.heap.size w w.drew := below_drewN (Below.refl _ w) 1
/-- A block of eight cells, all stored anew. -/
theorem store8 {W : World} {g : Nat} {z0 z1 z2 z3 z4 z5 z6 z7 : Value} {t : TypeId} {fr : Nat × Nat} (h : W.heap[g]? = some (.cells #[z0, z1, z2, z3, z4, z5, z6, z7] t fr)) (a0 a1 a2 a3 a4 a5 a6 a7 : Value) :
    ((((((((W.setCell ⟨g, 0, none⟩ a0).setCell ⟨g, 1, none⟩ a1).setCell ⟨g, 2, none⟩ a2).setCell ⟨g, 3, none⟩ a3).setCell ⟨g, 4, none⟩ a4).setCell ⟨g, 5, none⟩ a5).setCell ⟨g, 6, none⟩ a6).setCell ⟨g, 7, none⟩ a7).heap[g]? = some (.cells #[a0, a1, a2, a3, a4, a5, a6, a7] t fr) := by
  have := set_of (set_of (set_of (set_of (set_of (set_of (set_of (set_of h 0 a0) 1 a1) 2 a2) 3 a3) 4 a4) 5 a5) 6 a6) 7 a7
  simpa using this
theorem grown8 (W : World) (g : Nat) (a0 a1 a2 a3 a4 a5 a6 a7 : Value) : W.grownBy ((((((((W.setCell ⟨g, 0, none⟩ a0).setCell ⟨g, 1, none⟩ a1).setCell ⟨g, 2, none⟩ a2).setCell ⟨g, 3, none⟩ a3).setCell ⟨g, 4, none⟩ a4).setCell ⟨g, 5, none⟩ a5).setCell ⟨g, 6, none⟩ a6).setCell ⟨g, 7, none⟩ a7) (some g) :=
  grown_trans (grown_trans (grown_trans (grown_trans (grown_trans (grown_trans (grown_trans (grown_cell _ g 0 _) (grown_cell _ g 1 _)) (grown_cell _ g 2 _)) (grown_cell _ g 3 _)) (grown_cell _ g 4 _)) (grown_cell _ g 5 _)) (grown_cell _ g 6 _)) (grown_cell _ g 7 _)
/-- A further step that turns one newer block. -/
theorem grown_on {a b c : World} {row : Option Nat} {g : Nat} (h : a.grownBy b row) (k : b.grownBy c (some g)) (hg : a.heap.size ≤ g) : a.grownBy c row :=
  ⟨k.os.trans h.os, k.tape.trans h.tape, k.output.trans h.output, Nat.le_trans h.size k.size, fun i hi hr => (k.block i (Nat.lt_of_lt_of_le hi h.size) (fun e => by cases e; omega)).trans (h.block i hi hr)⟩
theorem grown_alloc {a b : World} {row : Option Nat} (h : a.grownBy b row) (o : Obj) : a.grownBy (b.alloc o) row := grown_below h ((Below.refl _ b).alloc (Nat.le_refl _) o)
theorem kept_of {w w' : World} {R g : Nat} {o : Obj} (h : w.heap[g]? = some o) (k : w.grownBy w' (some R)) (hne : g ≠ R) : w'.heap[g]? = some o := (k.block g (lt_of_heap h) (fun e => hne (by cases e; rfl))).trans h
theorem eight {W : World} {g : Nat} {a b c d e f x y : Value} {t : TypeId} {fr : Nat × Nat} (h : W.heap[g]? = some (.cells #[a, b, c, d, e, f, x, y] t fr)) :
    W.cell? ⟨g, 0, none⟩ = some a ∧ W.cell? ⟨g, 1, none⟩ = some b ∧ W.cell? ⟨g, 2, none⟩ = some c ∧ W.cell? ⟨g, 3, none⟩ = some d ∧ W.cell? ⟨g, 4, none⟩ = some e ∧ W.cell? ⟨g, 5, none⟩ = some f ∧ W.cell? ⟨g, 6, none⟩ = some x ∧ W.cell? ⟨g, 7, none⟩ = some y :=
  ⟨cell_of h 0, cell_of h 1, cell_of h 2, cell_of h 3, cell_of h 4, cell_of h 5, cell_of h 6, cell_of h 7⟩
theorem free8 {W : World} {g : Nat} {a b c d e f x y : Value} {t : TypeId} (h : W.heap[g]? = some (.cells #[a, b, c, d, e, f, x, y] t (0, 0))) :
    W.frozen? ⟨g, 0, none⟩ = false ∧ W.frozen? ⟨g, 1, none⟩ = false ∧ W.frozen? ⟨g, 2, none⟩ = false ∧ W.frozen? ⟨g, 3, none⟩ = false ∧ W.frozen? ⟨g, 4, none⟩ = false ∧ W.frozen? ⟨g, 5, none⟩ = false ∧ W.frozen? ⟨g, 6, none⟩ = false ∧ W.frozen? ⟨g, 7, none⟩ = false :=
  ⟨free_of h 0, free_of h 1, free_of h 2, free_of h 3, free_of h 4, free_of h 5, free_of h 6, free_of h 7⟩
/-- Whether c is next. -/
def nextIs (c : UInt8) (l : List UInt8) : Bool := decide (l.head? = some c)
theorem next_at {c : UInt8} {l : List UInt8} {q : Nat} (h : q < l.length) : nextIs c (l.drop q) = decide (nb l q = c.toNat) := by
  unfold nextIs
  rw [List.drop_eq_getElem_cons h, nb_get h]
  rw [decide_eq_decide]
  exact ⟨fun e => by injection e with e; rw [e], fun e => by rw [List.head?_cons, UInt8.toNat_inj.1 e]⟩
theorem next_past {c : UInt8} {l : List UInt8} {q : Nat} (h : l.length ≤ q) : nextIs c (l.drop q) = false := by
  unfold nextIs
  rw [List.drop_eq_nil_of_le h]
  rfl
set_option maxRecDepth 100000 in
set_option maxHeartbeats 4000000 in
theorem has_any {w : World} {R : Nat} {s : List UInt8} {q : Nat} {o : Int} {u : Value} {c : UInt8} {x : Int} (_hs : s.length < 100000) (h : Rdr R s q o u w) (hx : x = (c.toNat : Int)) :
    Calls Tryz.prog 89 #[rp R, .int .u8 x] w fun e w' => e = .returned (.bool (nextIs c (s.drop q))) ∧ Below w.heap.size w w' := by
  subst hx
  obtain ⟨c0, c1, c2, c3⟩ := four h
  have hz := txt_size s
  unfold rp
  by_cases hq : q < s.length
  · have hlt1 : decide (q < s.length) = true := decide_eq_true hq
    have hlt' : (q : Int) < (s.length : Int) := by omega
    have hix := idx hq
    have hn := next_at (c := c) hq
    by_cases hc : nb s q = c.toNat
    · rw [decide_eq_true hc] at hn
      rw [hc] at hix
      rw [hn]
      clear hn hc h
      go_enter Tryz.func89, Tryz.ntmps89
      go_wp2_with fail
      go_quiet (fail)
      go_wp2_with fail
      go_ret
      exact ⟨rfl, below_drewN (Below.refl _ _) _⟩
    · rw [decide_eq_false hc] at hn
      rw [hn]
      have hne : (((nb s q : Nat) : Int) == ((c.toNat : Nat) : Int)) = false := by simp; omega
      generalize nb s q = y at *
      generalize c.toNat = z at *
      clear hn hc h
      go_enter Tryz.func89, Tryz.ntmps89
      go_wp2_with fail
      go_quiet (fail)
      go_wp2_with fail
      go_ret
      exact ⟨rfl, below_drewN (Below.refl _ _) _⟩
  · have hlt1 : decide (q < s.length) = false := decide_eq_false hq
    have hn := next_past (c := c) (l := s) (q := q) (by omega)
    rw [hn]
    clear hn h
    go_enter Tryz.func89, Tryz.ntmps89
    go_wp2_with fail
    go_quiet (fail)
    go_wp2_with fail
    go_ret
    exact ⟨rfl, below_drewN (Below.refl _ _) _⟩
/-- What want tells. -/
def wantE (c : UInt8) (l : List UInt8) : Nat := match l with
  | [] => 2
  | d :: _ => if d = c then 0 else 3
def wantQ (c : UInt8) (l : List UInt8) (q : Nat) : Nat := if wantE c l = 0 then q + 1 else q
theorem want_at {c : UInt8} {l : List UInt8} {q : Nat} (h : q < l.length) : wantE c (l.drop q) = if nb l q = c.toNat then 0 else 3 := by
  rw [List.drop_eq_getElem_cons h, nb_get h]
  show (if l[q] = c then 0 else 3) = _
  have e : (l[q] = c ↔ l[q].toNat = c.toNat) := ⟨fun e => by rw [e], fun e => UInt8.toNat_inj.1 e⟩
  simp only [e]
theorem want_past {c : UInt8} {l : List UInt8} {q : Nat} (h : l.length ≤ q) : wantE c (l.drop q) = 2 := by
  rw [List.drop_eq_nil_of_le h]
  rfl
set_option maxRecDepth 100000 in
set_option maxHeartbeats 4000000 in
theorem want_any {w : World} {R : Nat} {s : List UInt8} {q : Nat} {o : Int} {u : Value} {c : UInt8} {x : Int} (hs : s.length < 100000) (hq : q ≤ s.length) (h : Rdr R s q o u w) (hx : x = (c.toNat : Int)) :
    Calls Tryz.prog 90 #[rp R, .int .u8 x] w fun e w' => e = .returned (.int .i64 (wantE c (s.drop q))) ∧ Rdr R s (wantQ c (s.drop q) q) o u w' ∧ w.grownBy w' (some R) := by
  subst hx
  obtain ⟨c0, c1, c2, c3⟩ := four h
  have hz := txt_size s
  have hf := free_of h 1
  have hR := lt_of_heap h
  unfold rp wantQ
  have hB := fun (n : Nat) => (show Rdr R s q o u (w.drewN n) from h)
  have hG := fun (n : Nat) => (show w.grownBy (w.drewN n) (some R) from ⟨rfl, rfl, rfl, Nat.le_refl _, fun _ _ _ => rfl⟩)
  by_cases hq2 : q < s.length
  · have heq : ((q : Int) == (s.length : Int)) = false := by simp; omega
    have hlt' : (q : Int) < (s.length : Int) := by omega
    have hwq : IntKind.i64.wrap ((q : Int) + 1) = (q : Int) + 1 := by simp only [IntKind.wrap, IntKind.signed, IntKind.bits]; simp; omega
    have hix := idx hq2
    have hn := want_at (c := c) hq2
    by_cases hc : nb s q = c.toNat
    · rw [if_pos hc] at hn
      rw [hn]
      rw [hc] at hix
      have hne : (((c.toNat : Nat) : Int) != ((c.toNat : Nat) : Int)) = false := by simp
      have fin : ∀ wx, Rdr R s q o u wx → w.grownBy wx (some R) → Rdr R s (q + 1) o u (wx.setCell ⟨R, 1, none⟩ (.int .i64 ((q : Int) + 1))) ∧ w.grownBy (wx.setCell ⟨R, 1, none⟩ (.int .i64 ((q : Int) + 1))) (some R) := fun wx h1 h2 => ⟨h1.goes (q + 1), grown_trans h2 (grown_cell _ _ _ _)⟩
      have HF := Lib.hid fin
      have HB := Lib.hid hB
      have HG := Lib.hid hG
      clear hn hc h fin hB hG
      go_enter Tryz.func90, Tryz.ntmps90
      go_wp2_with fail
      go_quiet (fail)
      go_wp2_with fail
      go_quiet (fail)
      go_wp2_with fail
      go_ret
      exact ⟨rfl, HF.out _ (HB.out _) (HG.out _)⟩
    · rw [if_neg hc] at hn
      rw [hn]
      have hne : (((nb s q : Nat) : Int) != ((c.toNat : Nat) : Int)) = true := by simp; omega
      generalize nb s q = y at *
      generalize c.toNat = z at *
      have HB := Lib.hid hB
      have HG := Lib.hid hG
      clear hn hc h hB hG
      go_enter Tryz.func90, Tryz.ntmps90
      go_wp2_with fail
      go_quiet (fail)
      go_wp2_with fail
      go_quiet (fail)
      go_wp2_with fail
      go_ret
      exact ⟨rfl, HB.out _, HG.out _⟩
  · have heq : ((q : Int) == (s.length : Int)) = true := by simp; omega
    have hn := want_past (c := c) (l := s) (q := q) (by omega)
    rw [hn]
    have HB := Lib.hid hB
    have HG := Lib.hid hG
    clear hn h hB hG
    go_enter Tryz.func90, Tryz.ntmps90
    go_wp2_with fail
    go_quiet (fail)
    go_wp2_with fail
    go_ret
    exact ⟨rfl, HB.out _, HG.out _⟩
end Go.Proofs.YtlfbnfphocpgeaaGreatDoor.Jdec
namespace Go.Proofs.YtlfbnfphocpgeaaGreatDoor.Jdec
open Go.RowKit Kit Txt
open Utf (nb)
set_option maxRecDepth 100000 in
set_option maxHeartbeats 2000000 in
theorem rword_tells {w : World} {l W : List UInt8} {q : Nat} {k0 : Int} {bl bm : Bool} {d : ByteArray} {x0 : Int} {t : ByteArray} {a1 : Option Addr} {n1 m1 : Nat} {a2 : Option Addr} {n2 m2 : Nat} (v : Tre.Val) (hC : ∀ wx : World, Tre.HoldF w.heap.size wx (.agg #[.int .i64 k0, .bool bl, .bool bm, .string d, .int .i64 x0, .string t, .slice a1 n1 m1, .slice a2 n2 m2]) v) (hl : l.length < 100000) (hW : W.length ≤ 10) (hq : q ≤ l.length) :
    Calls Tryz.prog 37 #[.string (txt l), .int .i64 q, .string (txt W), .agg #[.int .i64 k0, .bool bl, .bool bm, .string d, .int .i64 x0, .string t, .slice a1 n1 m1, .slice a2 n2 m2]] w fun e w' => TellE (Tre.HoldF w.heap.size w') l.length (word v W (l.drop q)) e ∧ Below w.heap.size w w' := by
  have hs := txt_size l
  have hs2 := txt_size W
  have HCC := Lib.hid hC
  clear hC
  go_enter Tryz.func37, Tryz.ntmps37
  go_wp2_with fail
  have hA0 := new_of (World.alloc_heap_new w (.cells #[.int .i64 k0, .bool bl, .bool bm, .string d, .int .i64 x0, .string t, .slice a1 n1 m1, .slice a2 n2 m2] 29)) (.cells #[.int .i64 0, .bool false, .bool false, .string ⟨#[]⟩, .int .i64 0, .string ⟨#[]⟩, .slice none 0 0, .slice none 0 0, .int .i64 0, .int .i64 0, .int .i64 0] 31)
  have hB0 := World.alloc_heap_new (w.alloc (.cells #[.int .i64 k0, .bool bl, .bool bm, .string d, .int .i64 x0, .string t, .slice a1 n1 m1, .slice a2 n2 m2] 29)) (.cells #[.int .i64 0, .bool false, .bool false, .string ⟨#[]⟩, .int .i64 0, .string ⟨#[]⟩, .slice none 0 0, .slice none 0 0, .int .i64 0, .int .i64 0, .int .i64 0] 31)
  rw [World.size_alloc] at hB0
  have b0 := ((Below.refl _ w).alloc (Nat.le_refl _) (.cells #[.int .i64 k0, .bool bl, .bool bm, .string d, .int .i64 x0, .string t, .slice a1 n1 m1, .slice a2 n2 m2] 29)).alloc (by simp) (.cells #[.int .i64 0, .bool false, .bool false, .string ⟨#[]⟩, .int .i64 0, .string ⟨#[]⟩, .slice none 0 0, .slice none 0 0, .int .i64 0, .int .i64 0, .int .i64 0] 31)
  go_loopw [9] (fun a wr => ∃ i : Nat, a = .int .i64 i ∧ i ≤ W.length ∧ q + i ≤ l.length ∧ word v W (l.drop q) = word v (W.drop i) (l.drop (q + i)) ∧ wr.heap[w.heap.size]? = some (.cells #[.int .i64 k0, .bool bl, .bool bm, .string d, .int .i64 x0, .string t, .slice a1 n1 m1, .slice a2 n2 m2] 29 (0, 0)) ∧ wr.heap[w.heap.size + 1]? = some (.cells #[.int .i64 0, .bool false, .bool false, .string ⟨#[]⟩, .int .i64 0, .string ⟨#[]⟩, .slice none 0 0, .slice none 0 0, .int .i64 0, .int .i64 0, .int .i64 0] 31 (0, 0)) ∧ Below w.heap.size w wr) (fun a _ => W.length - (intOf a).toNat)
  case atStart => exact ⟨0, rfl, by omega, by omega, rfl, hA0, hB0, b0⟩
  case round =>
    clear hA0 hB0 b0
    obtain ⟨i, rfl, hi, hqi, hk, hA, hB, bd0⟩ := hrel
    have hsum : IntKind.i64.wrap ((q : Int) + (i : Int)) = (q : Int) + (i : Int) := by simp only [IntKind.wrap, IntKind.signed, IntKind.bits]; simp; omega
    have hwi : IntKind.i64.wrap ((i : Int) + 1) = (i : Int) + 1 := by simp only [IntKind.wrap, IntKind.signed, IntKind.bits]; simp; omega
    by_cases hlt : i < W.length
    · have hlt1 : decide (i < W.length) = true := decide_eq_true hlt
      have hlt' : (i : Int) < (W.length : Int) := by omega
      have hixW := idx hlt
      by_cases hq2 : q + i < l.length
      · have hg1 : ¬ ((l.length : Int) ≤ (q : Int) + (i : Int)) := by omega
        have hg2 : decide ((l.length : Int) ≤ (q : Int) + (i : Int)) = false := by simp; omega
        have hixl : ∀ wx : World, (Instr.index 9 (.string (txt l)) (.int .i64 ((q : Int) + (i : Int)))).run Tryz.prog wx = .ok (.int .u8 (nb l (q + i) : Int)) wx := by
          have := idx hq2
          rw [Int.natCast_add] at this
          exact this
        rw [word_on v hlt hq2] at hk
        obtain ⟨x, hx⟩ : ∃ x, nb l (q + i) = x := ⟨_, rfl⟩
        obtain ⟨y, hy⟩ : ∃ y, nb W i = y := ⟨_, rfl⟩
        rw [hx] at hixl hk
        rw [hy] at hixW hk
        clear hx hy
        by_cases hxy : x = y
        · subst hxy
          rw [if_pos rfl] at hk
          have HK := Lib.hid hk
          clear hk
          go_wp2_with fail
          go_quiet (fail)
          go_wp2_with fail
          go_roundw
          case rel => exact ⟨i + 1, by go_num, by omega, by omega, by rw [HK.out]; rfl, ((below_drewN (Below.refl _ _) nq).block _ (lt_of_heap hA)).trans hA, ((below_drewN (Below.refl _ _) nq).block _ (lt_of_heap hB)).trans hB, below_drewN bd0 _⟩
          case measure => simp [intOf]; omega
        · rw [if_neg hxy] at hk
          have hne : ((x : Int) != (y : Int)) = true := by simp; omega
          have fin : ∀ (C : Value → Tre.Val → Prop) (p : Int), TellE C l.length (word v W (l.drop q)) (.returned (badV p 3)) := fun C p => .bad hk (by decide)
          have hb : ∀ wx : World, Calls Tryz.prog 58 #[.string (txt l), .int .i64 ((q : Int) + (i : Int))] wx fun r w' => r = .returned (badV ((q : Int) + (i : Int)) 3) ∧ Below wx.heap.size wx w' := fun wx => by
            have := rhere_any (w := wx) (l := l) (q := q + i)
            rw [show hereE l (q + i) = 3 by unfold hereE; rw [if_neg (by omega)], Int.natCast_add] at this
            exact this
          simp only [badV] at hb
          have HC := Lib.hid fin
          clear hk fin
          go_wp2_with fail
          go_quiet (fail)
          have hBX := ((below_drewN (Below.refl _ _) nq).block _ (lt_of_heap hB)).trans hB
          have bdX := below_drewN bd0 nq
          clear hA hB bd0
          generalize wr.drewN nq = P0 at *
          go_wp2_with fail
          refine (hb _).mono ?_
          rintro e w2 ⟨rfl, k2⟩
          have hB2 := (k2.block _ (lt_of_heap hBX)).trans hBX
          have b2 := bdX.trans (k2.mono bdX.size)
          have h9 := set11 hB2 (.int .i64 0) (.bool false) (.bool false) (.string ⟨#[]⟩) (.int .i64 0) (.string ⟨#[]⟩) (.slice none 0 0) (.slice none 0 0) (.int .i64 0) (.int .i64 ((q : Int) + (i : Int))) (.int .i64 3)
          have b9 := below11 b2 (show w.heap.size ≤ w.heap.size + 1 by omega) (.int .i64 0) (.bool false) (.bool false) (.string ⟨#[]⟩) (.int .i64 0) (.string ⟨#[]⟩) (.slice none 0 0) (.slice none 0 0) (.int .i64 0) (.int .i64 ((q : Int) + (i : Int))) (.int .i64 3)
          obtain ⟨d0, d1, d2, d3, d4, d5, d6, d7, d8, d9, d10⟩ := eleven h9
          obtain ⟨z0, z1, z2, z3, z4, z5, z6, z7, z8, z9, z10⟩ := eleven hB2
          have qf := free_of hB2
          clear h9 hB2 hBX bdX k2 b2
          go_wp2_with fail
          refine bodyPost_ret (v := badV ((q : Int) + (i : Int)) 3) (by simp [results, Tryz.results37, go_sem, badV, d0, d1, d2, d3, d4, d5, d6, d7, d8, d9, d10]) rfl ⟨HC.out _ _, b9⟩
      · have hg1 : (l.length : Int) ≤ (q : Int) + (i : Int) := by omega
        have hg2 : decide ((l.length : Int) ≤ (q : Int) + (i : Int)) = true := by simp; omega
        rw [word_short v hlt (by omega)] at hk
        have fin : ∀ (C : Value → Tre.Val → Prop) (p : Int), TellE C l.length (word v W (l.drop q)) (.returned (badV p 2)) := fun C p => .bad hk (by decide)
        have hb : ∀ wx : World, Calls Tryz.prog 58 #[.string (txt l), .int .i64 ((q : Int) + (i : Int))] wx fun r w' => r = .returned (badV ((q : Int) + (i : Int)) 2) ∧ Below wx.heap.size wx w' := fun wx => by
          have := rhere_any (w := wx) (l := l) (q := q + i)
          rw [show hereE l (q + i) = 2 by unfold hereE; rw [if_pos (by omega)], Int.natCast_add] at this
          exact this
        simp only [badV] at hb
        have HC := Lib.hid fin
        clear hk fin
        go_wp2_with fail
        go_quiet (fail)
        have hBX := ((below_drewN (Below.refl _ _) nq).block _ (lt_of_heap hB)).trans hB
        have bdX := below_drewN bd0 nq
        clear hA hB bd0
        generalize wr.drewN nq = P0 at *
        go_wp2_with fail
        refine (hb _).mono ?_
        rintro e w2 ⟨rfl, k2⟩
        have hB2 := (k2.block _ (lt_of_heap hBX)).trans hBX
        have b2 := bdX.trans (k2.mono bdX.size)
        have h9 := set11 hB2 (.int .i64 0) (.bool false) (.bool false) (.string ⟨#[]⟩) (.int .i64 0) (.string ⟨#[]⟩) (.slice none 0 0) (.slice none 0 0) (.int .i64 0) (.int .i64 ((q : Int) + (i : Int))) (.int .i64 2)
        have b9 := below11 b2 (show w.heap.size ≤ w.heap.size + 1 by omega) (.int .i64 0) (.bool false) (.bool false) (.string ⟨#[]⟩) (.int .i64 0) (.string ⟨#[]⟩) (.slice none 0 0) (.slice none 0 0) (.int .i64 0) (.int .i64 ((q : Int) + (i : Int))) (.int .i64 2)
        obtain ⟨d0, d1, d2, d3, d4, d5, d6, d7, d8, d9, d10⟩ := eleven h9
        obtain ⟨z0, z1, z2, z3, z4, z5, z6, z7, z8, z9, z10⟩ := eleven hB2
        have qf := free_of hB2
        clear h9 hB2 hBX bdX k2 b2
        go_wp2_with fail
        refine bodyPost_ret (v := badV ((q : Int) + (i : Int)) 2) (by simp [results, Tryz.results37, go_sem, badV, d0, d1, d2, d3, d4, d5, d6, d7, d8, d9, d10]) rfl ⟨HC.out _ _, b9⟩
    · have hlt1 : decide (i < W.length) = false := decide_eq_false hlt
      have hiW : i = W.length := by omega
      have hwq : IntKind.i64.wrap ((q : Int) + (W.length : Int)) = (q : Int) + (W.length : Int) := by simp only [IntKind.wrap, IntKind.signed, IntKind.bits]; simp; omega
      rw [wordR_end v (by omega)] at hk
      have fin : ∀ (wx : World) (p : Int), TellE (Tre.HoldF w.heap.size wx) l.length (word v W (l.drop q)) (.returned (.agg #[.int .i64 k0, .bool bl, .bool bm, .string d, .int .i64 x0, .string t, .slice a1 n1 m1, .slice a2 n2 m2, .int .i64 ((q : Int) + (W.length : Int)), .int .i64 p, .int .i64 0])) := fun wx p => .good hk (by rw [List.length_drop]; omega) (HCC.out wx)
      have HC := Lib.hid fin
      subst hiW
      clear hk fin
      have h9 := set11 hB (.int .i64 k0) (.bool bl) (.bool bm) (.string d) (.int .i64 x0) (.string t) (.slice a1 n1 m1) (.slice a2 n2 m2) (.int .i64 ((q : Int) + (W.length : Int))) (.int .i64 0) (.int .i64 0)
      have b9 := below11 bd0 (show w.heap.size ≤ w.heap.size + 1 by omega) (.int .i64 k0) (.bool bl) (.bool bm) (.string d) (.int .i64 x0) (.string t) (.slice a1 n1 m1) (.slice a2 n2 m2) (.int .i64 ((q : Int) + (W.length : Int))) (.int .i64 0) (.int .i64 0)
      obtain ⟨d0, d1, d2, d3, d4, d5, d6, d7, d8, d9, d10⟩ := eleven h9
      obtain ⟨z0, z1, z2, z3, z4, z5, z6, z7, z8, z9, z10⟩ := eleven hB
      obtain ⟨y0, y1, y2, y3, y4, y5, y6, y7⟩ := eight hA
      have qf := free_of hB
      clear h9 hA hB
      go_wp2_with fail
      refine bodyPost_ret (v := .agg #[.int .i64 k0, .bool bl, .bool bm, .string d, .int .i64 x0, .string t, .slice a1 n1 m1, .slice a2 n2 m2, .int .i64 ((q : Int) + (W.length : Int)), .int .i64 0, .int .i64 0]) (by simp [results, Tryz.results37, go_sem, d0, d1, d2, d3, d4, d5, d6, d7, d8, d9, d10]) rfl ⟨HC.out _ _, b9⟩
end Go.Proofs.YtlfbnfphocpgeaaGreatDoor.Jdec
namespace Go.Proofs.YtlfbnfphocpgeaaGreatDoor.Quo
open Utf
/-- The sign behind a backslash for a byte. -/
def shortB (c : UInt8) : Option UInt8 :=
  if c = 34 then some 34 else if c = 92 then some 92 else if c = 8 then some 98 else if c = 12 then some 102 else if c = 10 then some 110 else if c = 13 then some 114 else if c = 9 then some 116 else none
/-- A small hexadecimal digit. -/
def hexD (n : Nat) : UInt8 := UInt8.ofNat (if n < 10 then 48 + n else 97 + n - 10)
/-- How a byte is printed. -/
def esc (c : UInt8) : List UInt8 :=
  match shortB c with
  | some x => [92, x]
  | none => if c.toNat < 32 then [92, 117, 48, 48, hexD (c.toNat / 16), hexD (c.toNat % 16)] else [c]
def print (s : List UInt8) : List UInt8 := 34 :: (s.flatMap esc ++ [34])
theorem hexV_hexD : ∀ n : Fin 16, hexV (hexD n.val) = some n.val := by decide +kernel
theorem unit_00 {a b : Nat} (ha : a < 16) (hb : b < 16) (r : List UInt8) : unit (48 :: 48 :: hexD a :: hexD b :: r) = (a * 16 + b, 0) := by
  have h1 : hexV (hexD a) = some a := hexV_hexD ⟨a, ha⟩
  have h2 : hexV (hexD b) = some b := hexV_hexD ⟨b, hb⟩
  have h3 : hexV 48 = some 0 := by decide
  unfold unit
  simp only [unitF, h1, h2, h3]
  simp
theorem coded_00 {a b : Nat} (ha : a < 16) (hb : b < 16) (r : List UInt8) : coded (48 :: 48 :: hexD a :: hexD b :: r) = ⟨enc (a * 16 + b), 6, 0⟩ := by
  unfold coded
  rw [unit_00 ha hb]
  dsimp only
  rw [if_neg (by omega), if_neg (by omega), if_pos (by omega)]
theorem ofNat_toNat (c : UInt8) : UInt8.ofNat c.toNat = c := UInt8.ofNat_toNat
theorem part_lo {c : UInt8} (h : c.toNat < 128) (r : List UInt8) : part (esc c ++ r) = ⟨[c], (esc c).length, 0⟩ := by
  cases hs : shortB c with
  | some x =>
    have he : esc c = [92, x] := by unfold esc; rw [hs]
    have hsg : sign x = some c := by
      unfold shortB at hs
      repeat (split at hs; (rename_i hc; injection hs with hs; subst hs; subst hc; decide))
      cases hs
    rw [he]
    show part (92 :: x :: r) = _
    unfold part
    dsimp only
    rw [if_neg (by decide), if_neg (by decide), hsg]
    rfl
  | none =>
    by_cases h32 : c.toNat < 32
    · have he : esc c = [92, 117, 48, 48, hexD (c.toNat / 16), hexD (c.toNat % 16)] := by unfold esc; rw [hs]; dsimp only; rw [if_pos h32]
      rw [he]
      show part (92 :: 117 :: 48 :: 48 :: hexD (c.toNat / 16) :: hexD (c.toNat % 16) :: r) = _
      unfold part
      dsimp only
      rw [if_neg (by decide), if_neg (by decide), show sign 117 = none by decide]
      dsimp only
      rw [if_pos rfl, coded_00 (by omega) (by omega), show c.toNat / 16 * 16 + c.toNat % 16 = c.toNat by omega, enc_byte h]
      rfl
    · have he : esc c = [c] := by unfold esc; rw [hs]; dsimp only; rw [if_neg h32]
      have h92 : c ≠ 92 := by rintro rfl; revert hs; decide
      have h1 := one_enc (c := c.toNat) (by unfold Scalar; omega) r
      rw [enc_byte h] at h1
      rw [he]
      show part (c :: r) = _
      have h1' : one (c :: r) = (c.toNat, 1) := h1
      unfold part
      dsimp only
      rw [if_neg h32, if_pos h92, h1']
      dsimp only
      rw [if_neg (by omega)]
      rfl
theorem enc_hi {c : Nat} (hc : Scalar c) (h : 128 ≤ c) : ∀ b ∈ enc c, 128 ≤ b.toNat := by
  intro b hb
  have hc' := hc
  unfold Scalar at hc'
  rcases enc_kinds hc with ⟨m1, e⟩ | ⟨m1, m2, e⟩ | ⟨m1, m2, e⟩ | ⟨m1, m2, e⟩
  · omega
  all_goals
    rw [e] at hb
    simp only [List.mem_cons, List.not_mem_nil, or_false] at hb
  · rcases hb with rfl | rfl <;> rw [nbc (by omega)] <;> omega
  · rcases hb with rfl | rfl | rfl <;> rw [nbc (by omega)] <;> omega
  · rcases hb with rfl | rfl | rfl | rfl <;> rw [nbc (by omega)] <;> omega
theorem part_hi {c : Nat} (hc : Scalar c) (h : 128 ≤ c) (r : List UInt8) : part (enc c ++ r) = ⟨enc c, (enc c).length, 0⟩ := by
  have hb := enc_hi hc h
  have hl := enc_len (c := c)
  have h1 := one_enc hc r
  obtain ⟨b, t, e⟩ := List.exists_cons_of_ne_nil (show enc c ≠ [] by intro e; rw [e] at hl; simp at hl)
  have hb0 := hb b (by rw [e]; simp)
  rw [e] at h1 ⊢
  show part (b :: (t ++ r)) = _
  have h1' : one (b :: (t ++ r)) = (c, (b :: t).length) := h1
  unfold part
  dsimp only
  rw [if_neg (by omega), if_pos (by rintro rfl; revert hb0; decide), h1']
  dsimp only
  rw [if_neg (by simp)]
  congr 1
  exact List.take_left (l₁ := b :: t) (l₂ := r)
theorem scan_ok {l : List UInt8} (h : (scan l).e = 0) : bad (scan l).s = none ∧ 0 < (scan l).size ∧ (scan l).size ≤ l.length := by
  match l, h with
  | [], h => cases h
  | c :: r, h =>
    unfold scan at h ⊢
    dsimp only at h ⊢
    by_cases hc : c ≠ 34
    · rw [if_pos hc] at h; cases h
    · rw [if_neg hc] at h ⊢
      have := scanF_ok r.length r rfl [] 1 (by unfold bad; rw [scan_nil]) h
      simp only [List.length_cons]
      exact ⟨this.1, by omega, by omega⟩
def parse (l : List UInt8) : List UInt8 × Nat := if (scan l).e ≠ 0 then ([], (scan l).e) else if (scan l).size < l.length then ([], 14) else ((scan l).s, 0)
end Go.Proofs.YtlfbnfphocpgeaaGreatDoor.Quo
namespace Go.Proofs.YtlfbnfphocpgeaaGreatDoor.Quo
open Go.RowKit Kit Txt Utf
/-- A hexadecimal digit's value, or -1. -/
def hexI (c : UInt8) : Int := match hexV c with
  | some d => d
  | none => -1
theorem hexI_cases (c : UInt8) : (48 ≤ c.toNat ∧ c.toNat ≤ 57 ∧ hexI c = (c.toNat : Int) - 48) ∨ (97 ≤ c.toNat ∧ c.toNat ≤ 102 ∧ hexI c = (c.toNat : Int) - 97 + 10) ∨ (65 ≤ c.toNat ∧ c.toNat ≤ 70 ∧ hexI c = (c.toNat : Int) - 65 + 10) ∨
    (¬ (48 ≤ c.toNat ∧ c.toNat ≤ 57) ∧ ¬ (97 ≤ c.toNat ∧ c.toNat ≤ 102) ∧ ¬ (65 ≤ c.toNat ∧ c.toNat ≤ 70) ∧ hexI c = -1) := by
  unfold hexI hexV
  by_cases h1 : 48 ≤ c.toNat ∧ c.toNat ≤ 57
  · left
    rw [if_pos h1]
    exact ⟨h1.1, h1.2, by dsimp only; omega⟩
  rw [if_neg h1]
  by_cases h2 : 97 ≤ c.toNat ∧ c.toNat ≤ 102
  · right; left
    rw [if_pos h2]
    exact ⟨h2.1, h2.2, by dsimp only; omega⟩
  rw [if_neg h2]
  by_cases h3 : 65 ≤ c.toNat ∧ c.toNat ≤ 70
  · right; right; left
    rw [if_pos h3]
    exact ⟨h3.1, h3.2, by dsimp only; omega⟩
  rw [if_neg h3]
  exact .inr (.inr (.inr ⟨h1, h2, h3, rfl⟩))
theorem hexI_none {c : UInt8} (h : hexV c = none) : hexI c = -1 := by unfold hexI; rw [h]
theorem hexI_some {c : UInt8} {d : Nat} (h : hexV c = some d) : hexI c = d ∧ d ≤ 15 := by
  have := hexI_cases c
  have hlt := c.toNat_lt
  have e : hexI c = d := by unfold hexI; rw [h]
  exact ⟨e, by omega⟩
set_option maxRecDepth 100000 in
set_option maxHeartbeats 1000000 in
theorem hex_any {w : World} (c : UInt8) : Calls Tryz.prog 152 #[.int .u8 (c.toNat : Int)] w fun e w' => e = .returned (.int .i64 (hexI c)) ∧ w' = w := by
  have hlt : c.toNat < 256 := c.toNat_lt
  have hc := hexI_cases c
  generalize c.toNat = x at *
  have w1 : 48 ≤ x → IntKind.u8.wrap ((x : Int) - 48) = (x : Int) - 48 := fun h => by simp only [IntKind.wrap, IntKind.signed, IntKind.bits]; simp; omega
  have w2 : 97 ≤ x → IntKind.u8.wrap ((x : Int) - 97) = (x : Int) - 97 := fun h => by simp only [IntKind.wrap, IntKind.signed, IntKind.bits]; simp; omega
  have w3 : 65 ≤ x → IntKind.u8.wrap ((x : Int) - 65) = (x : Int) - 65 := fun h => by simp only [IntKind.wrap, IntKind.signed, IntKind.bits]; simp; omega
  rcases hc with ⟨h1, h2, h3⟩ | ⟨h1, h2, h3⟩ | ⟨h1, h2, h3⟩ | ⟨h1, h2, h3, h4⟩
  · rw [h3]
    have w1 := w1 h1
    have d1 : (48 : Int) ≤ (x : Int) := by omega
    have d2 : (x : Int) ≤ 57 := by omega
    clear h3
    go_enter Tryz.func152, Tryz.ntmps152
    go_wp2_with fail
    go_ret
    simp
  · rw [h3]
    have w2 := w2 h1
    have d1 : (48 : Int) ≤ (x : Int) := by omega
    have d2 : decide ((x : Int) ≤ 57) = false := by simp; omega
    have d3 : (97 : Int) ≤ (x : Int) := by omega
    have d4 : (x : Int) ≤ 102 := by omega
    clear h3
    go_enter Tryz.func152, Tryz.ntmps152
    go_wp2_with fail
    go_ret
    simp
  · rw [h3]
    have w3 := w3 h1
    have d1 : (48 : Int) ≤ (x : Int) := by omega
    have d2 : decide ((x : Int) ≤ 57) = false := by simp; omega
    have d3 : decide ((97 : Int) ≤ (x : Int)) = false := by simp; omega
    have d4 : (65 : Int) ≤ (x : Int) := by omega
    have d5 : (x : Int) ≤ 70 := by omega
    clear h3
    go_enter Tryz.func152, Tryz.ntmps152
    go_wp2_with fail
    go_ret
    simp
  · rw [h4]
    have q1 : decide ((48 : Int) ≤ (x : Int)) = false ∨ (decide ((48 : Int) ≤ (x : Int)) = true ∧ decide ((x : Int) ≤ 57) = false) := by simp; omega
    have q2 : decide ((97 : Int) ≤ (x : Int)) = false ∨ (decide ((97 : Int) ≤ (x : Int)) = true ∧ decide ((x : Int) ≤ 102) = false) := by simp; omega
    have q3 : decide ((65 : Int) ≤ (x : Int)) = false ∨ (decide ((65 : Int) ≤ (x : Int)) = true ∧ decide ((x : Int) ≤ 70) = false) := by simp; omega
    clear h4 w1 w2 w3 h1 h2 h3
    rcases q1 with q1 | ⟨q1, q1'⟩ <;> rcases q2 with q2 | ⟨q2, q2'⟩ <;> rcases q3 with q3 | ⟨q3, q3'⟩
    all_goals
      go_enter Tryz.func152, Tryz.ntmps152
      go_wp2_with fail
      go_ret
      simp
set_option maxRecDepth 100000 in
set_option maxHeartbeats 1000000 in
theorem digit_any {w : World} {n : Nat} (hn : n < 16) : Calls Tryz.prog 105 #[.int .i64 n] w fun e w' => e = .returned (.string (txt [hexD n])) ∧ Below w.heap.size w w' := by
  by_cases h : n < 10
  · have h' : (n : Int) < 10 := by omega
    have c0 := fun wx => one_text wx (48 + (n : Int)) (48 + n) (by omega) (by omega)
    have e : hexD n = UInt8.ofNat (48 + n) := by unfold hexD; rw [if_pos h]
    rw [← e] at c0
    have b0 : Below w.heap.size w (w.alloc (.cells #[.int .u8 (48 + (n : Int))] 5)) := (Below.refl _ w).alloc (Nat.le_refl _) _
    clear e
    go_enter Tryz.func105, Tryz.ntmps105
    go_wp2_with fail
    go_ret
    exact ⟨rfl, b0⟩
  · have h' : decide ((n : Int) < 10) = false := by simp; omega
    have c0 := fun wx => one_text wx (97 + (n : Int) - 10) (97 + n - 10) (by omega) (by omega)
    have e : hexD n = UInt8.ofNat (97 + n - 10) := by unfold hexD; rw [if_neg h]
    rw [← e] at c0
    have b0 : Below w.heap.size w (w.alloc (.cells #[.int .u8 (97 + (n : Int) - 10)] 5)) := (Below.refl _ w).alloc (Nat.le_refl _) _
    have w1 : IntKind.u8.wrap (97 + (n : Int) - 10) = 97 + (n : Int) - 10 := by simp only [IntKind.wrap, IntKind.signed, IntKind.bits]; simp; omega
    clear e
    go_enter Tryz.func105, Tryz.ntmps105
    go_wp2_with fail
    go_ret
    exact ⟨rfl, b0⟩
theorem unitF_nil {k n : Nat} : unitF (k + 1) n [] = (0, 2) := rfl
theorem unitF_none {k n : Nat} {c : UInt8} {r : List UInt8} (h : hexV c = none) : unitF (k + 1) n (c :: r) = (0, 3) := by unfold unitF; rw [h]
theorem unitF_some {k n d : Nat} {c : UInt8} {r : List UInt8} (h : hexV c = some d) : unitF (k + 1) n (c :: r) = unitF k (n * 16 + d) r := by rw [unitF, h]
set_option maxRecDepth 100000 in
set_option maxHeartbeats 2000000 in
theorem unit_any {w : World} {l : List UInt8} {i : Nat} (_hl : l.length < 1000000) (hi : i < 2000000) :
    Calls Tryz.prog 122 #[.string (txt l), .int .i64 i] w fun e w' => e = .returned (.tuple #[.int .i64 (unit (l.drop i)).1, .int .i64 (unit (l.drop i)).2]) ∧ w' = w := by
  have hs := txt_size l
  go_enter Tryz.func122, Tryz.ntmps122
  go_wp2_with fail
  go_loopw [6, 7] (fun n j wr => ∃ (k v : Nat), k ≤ 4 ∧ j = .int .i64 k ∧ n = .int .i64 v ∧ v < 16 ^ k ∧ unit (l.drop i) = unitF (4 - k) v (l.drop (i + k)) ∧ wr = w) (fun _ j _ => 4 - (intOf j).toNat)
  case atStart => exact ⟨0, 0, by omega, rfl, rfl, by decide, rfl, rfl⟩
  case round =>
    obtain ⟨k, v, hk, rfl, rfl, hv, hu, rfl⟩ := hrel
    have hv4 : v < 65536 := Nat.lt_of_lt_of_le hv (Nat.pow_le_pow_right (n := 16) (by omega) hk)
    by_cases h4 : k < 4
    · have h4' : (k : Int) < 4 := by omega
      have h4'' : decide (k < 4) = true := by simp; omega
      obtain ⟨m, hm⟩ : ∃ m, 4 - k = m + 1 := ⟨3 - k, by omega⟩
      rw [hm] at hu
      obtain ⟨q, hq⟩ : ∃ q, i + k = q := ⟨_, rfl⟩
      have hqi : (i : Int) + (k : Int) = (q : Int) := by omega
      have wq : IntKind.i64.wrap (q : Int) = (q : Int) := by simp only [IntKind.wrap, IntKind.signed, IntKind.bits]; simp; omega
      rw [hq] at hu
      by_cases hlt : q < l.length
      · have hlt' : decide (l.length ≤ q) = false := by simp; omega
        have hix := idx hlt
        have hd : l.drop q = l[q] :: l.drop (q + 1) := List.drop_eq_getElem_cons hlt
        rw [nb_get hlt] at hix
        rw [hd] at hu
        have hx := fun wx => hex_any (w := wx) l[q]
        have hc := hexI_cases l[q]
        cases hh : hexV l[q] with
        | none =>
          rw [unitF_none hh] at hu
          have e := hexI_none hh
          simp only [e] at hx
          generalize (l[q]).toNat = x at *
          have HU := Lib.hid hu
          clear hu hd hc hh e
          go_wp2_with fail
          refine (hx _).mono ?_
          rintro e w1 ⟨rfl, rfl⟩
          go_wp2_with fail
          refine bodyPost_ret (v := .tuple #[.int .i64 0, .int .i64 3]) (by simp [results, Tryz.results122, go_sem]) rfl ⟨by rw [HU.out]; rfl, rfl⟩
        | some d =>
          rw [unitF_some hh] at hu
          obtain ⟨e, hd15⟩ := hexI_some hh
          simp only [e] at hx
          have hv2 : v * 16 + d < 16 ^ (k + 1) := by rw [Nat.pow_succ]; omega
          have hm2 : 4 - (k + 1) = m := by omega
          have hq2 : i + (k + 1) = q + 1 := by omega
          rw [← hm2, ← hq2] at hu
          generalize (l[q]).toNat = x at *
          have HU := Lib.hid hu
          have HV := Lib.hid hv2
          clear hu hd hc hh e hv hv2 hm2 hq2 hm
          go_wp2_with fail
          refine (hx _).mono ?_
          rintro e w1 ⟨rfl, rfl⟩
          go_wp2_with fail
          go_roundw
          case rel => exact ⟨k + 1, v * 16 + d, by omega, by go_num, by go_num, HV.out, HU.out, by first | trivial | rfl⟩
          case measure => simp [intOf]; omega
      · have hlt' : decide (l.length ≤ q) = true := by simp; omega
        have hn : l.drop q = [] := List.drop_eq_nil_of_le (by omega)
        rw [hn, unitF_nil] at hu
        have HU := Lib.hid hu
        clear hu hn
        go_wp2_with fail
        refine bodyPost_ret (v := .tuple #[.int .i64 0, .int .i64 2]) (by simp [results, Tryz.results122, go_sem]) rfl ⟨by rw [HU.out]; rfl, rfl⟩
    · obtain rfl : k = 4 := by omega
      have hu2 : unit (l.drop i) = (v, 0) := hu
      have HU := Lib.hid hu2
      clear hu hu2 hv
      go_wp2_with fail
      refine bodyPost_ret (v := .tuple #[.int .i64 v, .int .i64 0]) (by simp [results, Tryz.results122, go_sem]) rfl ⟨by rw [HU.out]; rfl, rfl⟩
end Go.Proofs.YtlfbnfphocpgeaaGreatDoor.Quo
namespace Go.Proofs.YtlfbnfphocpgeaaGreatDoor.Utf
open Go.RowKit Kit
theorem conv1 {w : World} {x0 : Int} (a0 : UInt8) (h0 : x0 = a0.toNat) :
    (convert 60 9 (.slice (some ⟨w.heap.size, 0, none⟩) 1 1)).run Tryz.prog (w.alloc (.cells #[.int .u8 x0] 5)) = .ok (.string ⟨#[a0]⟩) (w.alloc (.cells #[.int .u8 x0] 5)) := by
  refine run_convert_bytes_back _ _ _ _ _ _ [a0] Tryz.underlying60 Tryz.underlying5 Tryz.underlying9 ?_
  intro j hj
  have hn := World.cell?_alloc_mark w #[.int .u8 x0] 5 (0, 0) j
  rw [h0] at hn ⊢
  rw [show (⟨w.heap.size, 0, none⟩ : Addr).add j = ⟨w.heap.size, j, none⟩ by simp [Addr.add]; omega, hn]
  match j, hj with
  | 0, _ => rfl
theorem conv2 {w : World} {x0 x1 : Int} (a0 a1 : UInt8) (h0 : x0 = a0.toNat) (h1 : x1 = a1.toNat) :
    (convert 60 9 (.slice (some ⟨w.heap.size, 0, none⟩) 2 2)).run Tryz.prog (w.alloc (.cells #[.int .u8 x0, .int .u8 x1] 5)) = .ok (.string ⟨#[a0, a1]⟩) (w.alloc (.cells #[.int .u8 x0, .int .u8 x1] 5)) := by
  refine run_convert_bytes_back _ _ _ _ _ _ [a0, a1] Tryz.underlying60 Tryz.underlying5 Tryz.underlying9 ?_
  intro j hj
  have hn := World.cell?_alloc_mark w #[.int .u8 x0, .int .u8 x1] 5 (0, 0) j
  rw [h0, h1] at hn ⊢
  rw [show (⟨w.heap.size, 0, none⟩ : Addr).add j = ⟨w.heap.size, j, none⟩ by simp [Addr.add]; omega, hn]
  match j, hj with
  | 0, _ => rfl
  | 1, _ => rfl
theorem conv3 {w : World} {x0 x1 x2 : Int} (a0 a1 a2 : UInt8) (h0 : x0 = a0.toNat) (h1 : x1 = a1.toNat) (h2 : x2 = a2.toNat) :
    (convert 60 9 (.slice (some ⟨w.heap.size, 0, none⟩) 3 3)).run Tryz.prog (w.alloc (.cells #[.int .u8 x0, .int .u8 x1, .int .u8 x2] 5)) = .ok (.string ⟨#[a0, a1, a2]⟩) (w.alloc (.cells #[.int .u8 x0, .int .u8 x1, .int .u8 x2] 5)) := by
  refine run_convert_bytes_back _ _ _ _ _ _ [a0, a1, a2] Tryz.underlying60 Tryz.underlying5 Tryz.underlying9 ?_
  intro j hj
  have hn := World.cell?_alloc_mark w #[.int .u8 x0, .int .u8 x1, .int .u8 x2] 5 (0, 0) j
  rw [h0, h1, h2] at hn ⊢
  rw [show (⟨w.heap.size, 0, none⟩ : Addr).add j = ⟨w.heap.size, j, none⟩ by simp [Addr.add]; omega, hn]
  match j, hj with
  | 0, _ => rfl
  | 1, _ => rfl
  | 2, _ => rfl
theorem conv4 {w : World} {x0 x1 x2 x3 : Int} (a0 a1 a2 a3 : UInt8) (h0 : x0 = a0.toNat) (h1 : x1 = a1.toNat) (h2 : x2 = a2.toNat) (h3 : x3 = a3.toNat) :
    (convert 60 9 (.slice (some ⟨w.heap.size, 0, none⟩) 4 4)).run Tryz.prog (w.alloc (.cells #[.int .u8 x0, .int .u8 x1, .int .u8 x2, .int .u8 x3] 5)) = .ok (.string ⟨#[a0, a1, a2, a3]⟩) (w.alloc (.cells #[.int .u8 x0, .int .u8 x1, .int .u8 x2, .int .u8 x3] 5)) := by
  refine run_convert_bytes_back _ _ _ _ _ _ [a0, a1, a2, a3] Tryz.underlying60 Tryz.underlying5 Tryz.underlying9 ?_
  intro j hj
  have hn := World.cell?_alloc_mark w #[.int .u8 x0, .int .u8 x1, .int .u8 x2, .int .u8 x3] 5 (0, 0) j
  rw [h0, h1, h2, h3] at hn ⊢
  rw [show (⟨w.heap.size, 0, none⟩ : Addr).add j = ⟨w.heap.size, j, none⟩ by simp [Addr.add]; omega, hn]
  match j, hj with
  | 0, _ => rfl
  | 1, _ => rfl
  | 2, _ => rfl
  | 3, _ => rfl
set_option maxRecDepth 100000 in
theorem rput_any {w : World} {c : Int} (h1 : -9223372036854775808 ≤ c) (h2 : c ≤ 9223372036854775807) :
    Calls Tryz.prog 121 #[.int .i64 c] w fun e w' => e = .returned (.string ⟨(putL c).toArray⟩) ∧ Below w.heap.size w w' := by
  by_cases hc : 0 ≤ c ∧ c ≤ 1114111 ∧ (c < 55296 ∨ 57343 < c)
  · obtain ⟨n, rfl⟩ := Int.eq_ofNat_of_zero_le hc.1
    have hsc : Scalar n := by unfold Scalar; omega
    have e : putL (n : Int) = enc n := by unfold putL; rw [if_pos hc, Int.toNat_natCast]
    rw [e]
    obtain ⟨c1, c2, c3⟩ := hc
    have k1 : decide ((n : Int) < 0) = false := by simp
    have k2 : decide ((1114111 : Int) < n) = false := by simp; omega
    rcases enc_kinds hsc with ⟨m1, e⟩ | ⟨m1, m2, e⟩ | ⟨m1, m2, e⟩ | ⟨m1, m2, e⟩
    · have k3 : decide ((55296 : Int) ≤ n) = false := by simp; omega
      have k4 : (n : Int) < 128 := by omega
      generalize hA0 : UInt8.ofNat (n) = A0 at e
      rw [e]
      go_enter Tryz.func121, Tryz.ntmps121
      go_wp2_with fail
      rw [conv1 A0 ?_]
      · go_wp2_with fail
        go_ret
        exact ⟨rfl, (Below.refl _ w).alloc (Nat.le_refl _) _⟩
      · rw [← hA0, nbc (by omega)]
    · have k3 : decide ((55296 : Int) ≤ n) = false := by simp; omega
      have k4 : decide ((n : Int) < 128) = false := by simp; omega
      have k5 : (n : Int) < 2048 := by omega
      generalize hA0 : UInt8.ofNat (192 + n / 64) = A0 at e
      generalize hA1 : UInt8.ofNat (128 + n % 64) = A1 at e
      rw [e]
      go_enter Tryz.func121, Tryz.ntmps121
      go_wp2_with fail
      rw [conv2 A0 A1 ?_ ?_]
      · go_wp2_with fail
        go_ret
        exact ⟨rfl, (Below.refl _ w).alloc (Nat.le_refl _) _⟩
      · rw [← hA0, nbc (by omega)]; omega
      · rw [← hA1, nbc (by omega)]; omega
    · by_cases k7 : n < 55296
      · have k3 : decide ((55296 : Int) ≤ n) = false := by simp; omega
        have k4 : decide ((n : Int) < 128) = false := by simp; omega
        have k5 : decide ((n : Int) < 2048) = false := by simp; omega
        have k6 : (n : Int) < 65536 := by omega
        generalize hA0 : UInt8.ofNat (224 + n / 4096) = A0 at e
        generalize hA1 : UInt8.ofNat (128 + n / 64 % 64) = A1 at e
        generalize hA2 : UInt8.ofNat (128 + n % 64) = A2 at e
        rw [e]
        go_enter Tryz.func121, Tryz.ntmps121
        go_wp2_with fail
        rw [conv3 A0 A1 A2 ?_ ?_ ?_]
        · go_wp2_with fail
          go_ret
          exact ⟨rfl, (Below.refl _ w).alloc (Nat.le_refl _) _⟩
        · rw [← hA0, nbc (by omega)]; omega
        · rw [← hA1, nbc (by omega)]; omega
        · rw [← hA2, nbc (by omega)]; omega
      · have k3 : decide ((n : Int) ≤ 57343) = false := by simp; omega
        have k8 : (55296 : Int) ≤ n := by omega
        have k4 : decide ((n : Int) < 128) = false := by simp; omega
        have k5 : decide ((n : Int) < 2048) = false := by simp; omega
        have k6 : (n : Int) < 65536 := by omega
        generalize hA0 : UInt8.ofNat (224 + n / 4096) = A0 at e
        generalize hA1 : UInt8.ofNat (128 + n / 64 % 64) = A1 at e
        generalize hA2 : UInt8.ofNat (128 + n % 64) = A2 at e
        rw [e]
        go_enter Tryz.func121, Tryz.ntmps121
        go_wp2_with fail
        rw [conv3 A0 A1 A2 ?_ ?_ ?_]
        · go_wp2_with fail
          go_ret
          exact ⟨rfl, (Below.refl _ w).alloc (Nat.le_refl _) _⟩
        · rw [← hA0, nbc (by omega)]; omega
        · rw [← hA1, nbc (by omega)]; omega
        · rw [← hA2, nbc (by omega)]; omega
    · have k3 : decide ((n : Int) ≤ 57343) = false := by simp; omega
      have k8 : (55296 : Int) ≤ n := by omega
      have k4 : decide ((n : Int) < 128) = false := by simp; omega
      have k5 : decide ((n : Int) < 2048) = false := by simp; omega
      have k6 : decide ((n : Int) < 65536) = false := by simp; omega
      generalize hA0 : UInt8.ofNat (240 + n / 262144) = A0 at e
      generalize hA1 : UInt8.ofNat (128 + n / 4096 % 64) = A1 at e
      generalize hA2 : UInt8.ofNat (128 + n / 64 % 64) = A2 at e
      generalize hA3 : UInt8.ofNat (128 + n % 64) = A3 at e
      rw [e]
      go_enter Tryz.func121, Tryz.ntmps121
      go_wp2_with fail
      rw [conv4 A0 A1 A2 A3 ?_ ?_ ?_ ?_]
      · go_wp2_with fail
        go_ret
        exact ⟨rfl, (Below.refl _ w).alloc (Nat.le_refl _) _⟩
      · rw [← hA0, nbc (by omega)]; omega
      · rw [← hA1, nbc (by omega)]; omega
      · rw [← hA2, nbc (by omega)]; omega
      · rw [← hA3, nbc (by omega)]; omega
  · have e : putL c = [] := by unfold putL; rw [if_neg hc]
    rw [e]
    by_cases c1 : c < 0
    · go_enter Tryz.func121, Tryz.ntmps121
      go_wp2_with fail
      go_ret
      exact ⟨rfl, Below.refl _ _⟩
    by_cases c2 : 1114111 < c
    · go_enter Tryz.func121, Tryz.ntmps121
      go_wp2_with fail
      go_ret
      exact ⟨rfl, Below.refl _ _⟩
    have c3 : 55296 ≤ c := by omega
    have c4 : c ≤ 57343 := by omega
    go_enter Tryz.func121, Tryz.ntmps121
    go_wp2_with fail
    go_ret
    exact ⟨rfl, Below.refl _ _⟩
end Go.Proofs.YtlfbnfphocpgeaaGreatDoor.Utf
namespace Go.Proofs.YtlfbnfphocpgeaaGreatDoor.Utf
open Go.RowKit Kit
/-- What guess has put together ahead of the i-th byte. -/
def gacc (l : List UInt8) (ld : Int) : Nat → Int
  | 0 => 0
  | 1 => nb l 0 - ld
  | i + 2 => gacc l ld (i + 1) * 64 + nb l (i + 1) - 128
theorem gacc_lt (l : List UInt8) {ld : Int} (h0 : 0 ≤ ld) (h1 : ld ≤ 255) : ∀ i, -(300 * 64 ^ i : Nat) + 4 < gacc l ld (i + 1) ∧ gacc l ld (i + 1) < (300 * 64 ^ i : Nat) - 4
  | 0 => by have := nb_lt l 0; simp [gacc]; omega
  | i + 1 => by
    have := gacc_lt l h0 h1 i
    have := nb_lt l (i + 1)
    have : 0 < 64 ^ i := Nat.pow_pos (by omega)
    simp only [gacc, Nat.pow_succ]
    omega
set_option maxHeartbeats 1000000 in
set_option maxRecDepth 100000 in
theorem guess_walk {w : World} {s : ByteArray} {ld : Int} (n : Nat) (hn : s.size = n + 1) (h4 : n < 4) (h0 : 0 ≤ ld) (h1 : ld ≤ 255) (hld : (#[.int .i64 0, .int .i64 192, .int .i64 224, .int .i64 240] : Array Value)[n]? = some (.int .i64 ld)) :
    Calls Tryz.prog 120 #[.string s] w fun e w' => e = .returned (.int .i64 (gacc s.data.toList ld (n + 1))) ∧ Below w.heap.size w w' := by
  have hz : (0 : Int) < (s.size : Int) := by omega
  have hx0 := at_nb s 0 (by omega)
  have hc : (w.alloc (.cells #[.int .i64 0, .int .i64 192, .int .i64 224, .int .i64 240] 3)).cell? ⟨w.heap.size, n, none⟩ = some (.int .i64 ld) := (cell_of (World.alloc_heap_new w _) n).trans hld
  have hsz : (s.size : Int) - 1 = n := by omega
  go_enter Tryz.func120, Tryz.ntmps120
  go_wp2_with fail
  go_quiet (fail)
  go_wp2_with fail
  go_loopw [4, 5] (fun c i wr => ∃ k : Nat, 1 ≤ k ∧ k ≤ n + 1 ∧ c = .int .i64 (gacc s.data.toList ld k) ∧ i = .int .i64 k ∧ Below w.heap.size w wr) (fun _ i _ => n + 1 - (intOf i).toNat)
  case atStart =>
    refine ⟨1, by omega, by omega, ?_, rfl, below_drewN ((Below.refl _ w).alloc (Nat.le_refl _) _) _⟩
    have := nb_lt s.data.toList 0
    simp only [gacc, Value.int.injEq, true_and]
    unfold wrap64
    omega
  case round =>
    clear hc
    obtain ⟨k, hk1, hkz, rfl, rfl, hbel⟩ := hrel
    by_cases hlt : k < n + 1
    · have hks : (k : Int) < (s.size : Int) := by omega
      have hxk := at_nb s k (by omega)
      have hb : -1000000000000 < gacc s.data.toList ld k ∧ gacc s.data.toList ld k < 1000000000000 := by
        have h3 : k - 1 + 1 = k := by omega
        have h4 := gacc_lt s.data.toList h0 h1 (k - 1)
        rw [h3] at h4
        have h5 : 64 ^ (k - 1) ≤ 64 ^ 3 := Nat.pow_le_pow_right (by omega) (by omega)
        omega
      obtain ⟨b1, b2⟩ := hb
      have b3 := nb_lt s.data.toList k
      go_wp2_with fail
      go_roundw
      case rel =>
        refine ⟨k + 1, by omega, by omega, ?_, by go_num, hbel⟩
        match k, hk1 with
        | k + 1, _ => simp only [gacc]
      case measure => simp [intOf]; omega
    · obtain rfl : k = n + 1 := by omega
      go_wp2_with fail
      go_ret
      exact ⟨rfl, hbel⟩
def lead : Nat → Int
  | 0 => 0
  | 1 => 192
  | 2 => 224
  | _ => 240
/-- What guess answers. -/
def gv (t : List UInt8) : Int := gacc t (lead (t.length - 1)) t.length
theorem guess_any {w : World} {s : ByteArray} (h1 : 1 ≤ s.size) (h4 : s.size ≤ 4) :
    Calls Tryz.prog 120 #[.string s] w fun e w' => e = .returned (.int .i64 (gv s.data.toList)) ∧ Below w.heap.size w w' := by
  have hlen : s.data.toList.length = s.size := by simp
  unfold gv
  rw [hlen]
  rcases (show s.size = 1 ∨ s.size = 2 ∨ s.size = 3 ∨ s.size = 4 by omega) with h | h | h | h <;> rw [h]
  · exact guess_walk 0 h (by omega) (by decide) (by decide) rfl
  · exact guess_walk 1 h (by omega) (by decide) (by decide) rfl
  · exact guess_walk 2 h (by omega) (by decide) (by decide) rfl
  · exact guess_walk 3 h (by omega) (by decide) (by decide) rfl
theorem gv_range {t : List UInt8} (h1 : 1 ≤ t.length) (h4 : t.length ≤ 4) : -9223372036854775808 ≤ gv t ∧ gv t ≤ 9223372036854775807 := by
  unfold gv
  obtain ⟨n, hn⟩ : ∃ n, t.length = n + 1 := ⟨t.length - 1, by omega⟩
  rw [hn]
  have hl : 0 ≤ lead (n + 1 - 1) ∧ lead (n + 1 - 1) ≤ 255 := by
    unfold lead
    split <;> decide
  have := gacc_lt t hl.1 hl.2 n
  have h5 : 64 ^ n ≤ 64 ^ 3 := Nat.pow_le_pow_right (by omega) (by omega)
  omega
theorem gv_enc {k : Nat} (hk : Scalar k) : gv (enc k) = k := by
  have hk' := hk
  unfold Scalar at hk'
  rcases enc_kinds hk with ⟨m1, e⟩ | ⟨m1, m2, e⟩ | ⟨m1, m2, e⟩ | ⟨m1, m2, e⟩ <;> rw [e]
  · have n0 : nb [UInt8.ofNat k] 0 = k := nbc (by omega)
    simp only [gv, List.length_cons, List.length_nil, Nat.zero_add, Nat.sub_self, lead, gacc, n0]
    omega
  · generalize hl : [UInt8.ofNat (192 + k / 64), UInt8.ofNat (128 + k % 64)] = l
    have n0 : nb l 0 = 192 + k / 64 := by rw [← hl]; exact nbc (by omega)
    have n1 : nb l 1 = 128 + k % 64 := by rw [← hl]; exact nbc (by omega)
    have hn : l.length = 2 := by rw [← hl]; rfl
    simp only [gv, hn, lead, gacc, n0, n1, Nat.zero_add, Nat.reduceSub]
    omega
  · generalize hl : [UInt8.ofNat (224 + k / 4096), UInt8.ofNat (128 + k / 64 % 64), UInt8.ofNat (128 + k % 64)] = l
    have n0 : nb l 0 = 224 + k / 4096 := by rw [← hl]; exact nbc (by omega)
    have n1 : nb l 1 = 128 + k / 64 % 64 := by rw [← hl]; exact nbc (by omega)
    have n2 : nb l 2 = 128 + k % 64 := by rw [← hl]; exact nbc (by omega)
    have hn : l.length = 3 := by rw [← hl]; rfl
    simp only [gv, hn, lead, gacc, n0, n1, n2, Nat.zero_add, Nat.reduceSub, Nat.reduceAdd]
    omega
  · generalize hl : [UInt8.ofNat (240 + k / 262144), UInt8.ofNat (128 + k / 4096 % 64), UInt8.ofNat (128 + k / 64 % 64), UInt8.ofNat (128 + k % 64)] = l
    have n0 : nb l 0 = 240 + k / 262144 := by rw [← hl]; exact nbc (by omega)
    have n1 : nb l 1 = 128 + k / 4096 % 64 := by rw [← hl]; exact nbc (by omega)
    have n2 : nb l 2 = 128 + k / 64 % 64 := by rw [← hl]; exact nbc (by omega)
    have n3 : nb l 3 = 128 + k % 64 := by rw [← hl]; exact nbc (by omega)
    have hn : l.length = 4 := by rw [← hl]; rfl
    simp only [gv, hn, lead, gacc, n0, n1, n2, n3, Nat.zero_add, Nat.reduceSub, Nat.reduceAdd]
    omega
theorem putL_of {k : Nat} (hk : Scalar k) : putL (k : Int) = enc k := by
  unfold Scalar at hk
  unfold putL
  rw [if_pos (by omega), Int.toNat_natCast]
/-- A guess that is written just as it stands there is the scalar. -/
theorem hit {m : List UInt8} {n : Nat} (h1 : 1 ≤ n) (hn : n ≤ m.length) {c : Int} (h : putL c = m.take n) : ∃ k : Nat, c = k ∧ one m = (k, n) := by
  by_cases hc : 0 ≤ c ∧ c ≤ 1114111 ∧ (c < 55296 ∨ 57343 < c)
  · obtain ⟨k, rfl⟩ := Int.eq_ofNat_of_zero_le hc.1
    have hk : Scalar k := by unfold Scalar; omega
    rw [putL_of hk] at h
    exact ⟨k, rfl, one_of_take hk h.symm hn⟩
  · unfold putL at h
    rw [if_neg hc] at h
    have := congrArg List.length h
    rw [List.length_take, List.length_nil] at this
    omega
/-- Where no guess is, there is no scalar. -/
theorem miss {m : List UInt8} (h : ∀ n, 1 ≤ n → n ≤ 4 → n ≤ m.length → putL (gv (m.take n)) ≠ m.take n) : one m = (0, 0) := by
  by_cases h0 : (one m).2 = 0
  · have : (one m).2 = 0 → one m = (0, 0) := by
      unfold one
      split
      · intro e; cases e
      split
      · intro e; cases e
      split
      · intro e; cases e
      split
      · intro e; cases e
      · intro _; rfl
    exact this h0
  · exfalso
    obtain ⟨h1, h2, h3⟩ := one_bytes h0
    have hl := congrArg List.length h2
    rw [List.length_take, Nat.min_eq_left h3] at hl
    have h5 := enc_len (c := (one m).1)
    refine h (one m).2 (by omega) (by omega) h3 ?_
    rw [h2, gv_enc h1, putL_of h1]
theorem extract_mid (s : ByteArray) (k n : Nat) : (s.extract k (k + n)).data.toList = (s.data.toList.drop k).take n := by
  rw [ByteArray.data_extract, Array.toList_extract, List.extract_eq_take_drop, Nat.add_sub_cancel_left]
set_option maxHeartbeats 1000000 in
set_option maxRecDepth 100000 in
theorem rone_any {w : World} {s : ByteArray} {k : Nat} (hs : s.size < 4611686018427387904) (hk : k < s.size) :
    Calls Tryz.prog 87 #[.string s, .int .i64 k] w fun e w' => e = .returned (.tuple #[.int .i64 (one (s.data.toList.drop k)).1, .int .i64 (one (s.data.toList.drop k)).2]) ∧ Below w.heap.size w w' := by
  have hlen : s.data.toList.length = s.size := by simp
  have hml : (s.data.toList.drop k).length = s.size - k := by rw [List.length_drop, hlen]
  go_enter Tryz.func87, Tryz.ntmps87
  go_wp2_with fail
  go_loopw [6] (fun i wr => ∃ n : Nat, 1 ≤ n ∧ n ≤ 5 ∧ n ≤ s.size - k + 1 ∧ i = .int .i64 n ∧ (∀ j, 1 ≤ j → j < n → putL (gv ((s.data.toList.drop k).take j)) ≠ (s.data.toList.drop k).take j) ∧ Below w.heap.size w wr) (fun i _ => 5 - (intOf i).toNat)
  case atStart => exact ⟨1, by omega, by omega, by omega, rfl, fun j h1 h2 => by omega, Below.refl _ _⟩
  case round =>
    obtain ⟨n, hn1, hn5, hnl, rfl, hno, hbel⟩ := hrel
    by_cases h5 : n ≤ 4
    · have h5' : (n : Int) ≤ 4 := by omega
      by_cases hle : k + n ≤ s.size
      · have hnm : n ≤ (s.data.toList.drop k).length := by rw [hml]; omega
        have hn5' : n + 1 ≤ 5 := Nat.succ_le_succ h5
        have hnl' : n + 1 ≤ s.size - k + 1 := by omega
        have hle' : (k : Int) + (n : Int) ≤ (s.size : Int) := by omega
        have hsz : (s.extract k (k + n)).size = n := by simp; omega
        have hg := guess_any (w := wr) (s := s.extract k (k + n)) (by omega) (by omega)
        rw [extract_mid] at hg
        obtain ⟨g1, g2⟩ := gv_range (t := (s.data.toList.drop k).take n) (by rw [List.length_take, hml]; omega) (by rw [List.length_take, hml]; omega)
        go_wp2_with fail
        refine hg.mono ?_
        rintro e w1 ⟨rfl, b1⟩
        go_wp2_with fail
        have hsl : ∀ wx, (Instr.slice 9 (.string s) (some (.int .i64 k)) (some (.int .i64 ((k : Int) + (n : Int)))) none).run Tryz.prog wx = .ok (.string (s.extract k (k + n))) wx := fun wx => by
          have := run_slice_string (P := Tryz.prog) wx 9 s .i64 .i64 k ((k : Int) + n) Tryz.underlying9 (by omega) (by omega) (by omega)
          rw [this]
          rfl
        have q1 : (0 : Int) ≤ (k : Int) + (n : Int) := by omega
        have q2 : (k : Int) ≤ (k : Int) + (n : Int) := by omega
        have q3 : ((k : Int) + (n : Int)).toNat = k + n := by omega
        have hw : IntKind.i64.wrap ((k : Int) + (n : Int)) = (k : Int) + (n : Int) := by
          simp only [IntKind.wrap, IntKind.signed, IntKind.bits]
          simp
          omega
        have hw' : wrap64 ((k : Int) + (n : Int)) = (k : Int) + (n : Int) := by unfold wrap64; omega
        have hS := hbel.trans (b1.mono hbel.size)
        go_region_held3 (fun wx => Below w.heap.size w wx) (first | assumption | exact below_drewN hS 1 | exact Below.trans (by assumption) (Below.mono (by assumption) (Below.size (by assumption)))) (first | (go_at_call 121; refine (rput_any g1 g2).mono ?_; rintro e w2 ⟨rfl, b2⟩))
        have hx : (s.extract k (k + n)).toList = (s.data.toList.drop k).take n := by rw [ByteArray.toList_eq, extract_mid]
        by_cases hh : putL (gv ((s.data.toList.drop k).take n)) = (s.data.toList.drop k).take n
        · have hb : (putL (gv ((s.data.toList.drop k).take n)) == (s.extract k (k + n)).toList) = true := by rw [hx, hh]; exact beq_self_eq_true _
          obtain ⟨c, hc, ho⟩ := hit hn1 hnm hh
          rw [hb]
          clear hb hx hh
          go_wp2_with fail
          go_ret2
          exact ⟨by rw [ho, ← hc]; rfl, by assumption⟩
        · have hb : (putL (gv ((s.data.toList.drop k).take n)) == (s.extract k (k + n)).toList) = false := by rw [hx]; exact beq_false_of_ne hh
          rw [hb]
          clear hb hx
          go_wp2_with fail
          go_roundw
          case rel => exact ⟨n + 1, Nat.le_add_left _ _, hn5', hnl', by go_num, fun j h1 h2 => (Nat.lt_succ_iff_lt_or_eq.1 h2).elim (fun h => hno j h1 h) (fun h => h ▸ hh), by assumption⟩
          case measure => simp [intOf]; omega
      · have q : decide ((k : Int) + (n : Int) ≤ (s.size : Int)) = false := by simp; omega
        have ho := miss (m := s.data.toList.drop k) (fun j h1 h2 h3 => hno j h1 (by omega))
        go_wp2_with fail
        go_ret2
        exact ⟨by rw [ho]; rfl, hbel⟩
    · obtain rfl : n = 5 := by omega
      have ho := miss (m := s.data.toList.drop k) (fun j h1 h2 h3 => hno j h1 (by omega))
      go_wp2_with fail
      go_ret2
      exact ⟨by rw [ho]; rfl, hbel⟩
end Go.Proofs.YtlfbnfphocpgeaaGreatDoor.Utf
namespace Go.Proofs.YtlfbnfphocpgeaaGreatDoor.Utf
open Go.RowKit Kit
set_option maxHeartbeats 1000000 in
set_option maxRecDepth 100000 in
theorem rbad_any {w : World} {s : ByteArray} (hs : s.size < 4611686018427387904) :
    Calls Tryz.prog 119 #[.string s] w fun e w' => e = .returned (.int .i64 (badI s.data.toList)) ∧ Below w.heap.size w w' := by
  have hlen : s.data.toList.length = s.size := by simp
  go_enter Tryz.func119, Tryz.ntmps119
  go_wp2_with fail
  go_loopw [3] (fun i wr => ∃ k : Nat, k ≤ s.size ∧ i = .int .i64 k ∧ (scan k (s.data.toList.drop k)).2 = bad s.data.toList ∧ Below w.heap.size w wr) (fun i _ => s.size - (intOf i).toNat)
  case atStart => exact ⟨0, Nat.zero_le _, rfl, rfl, Below.refl _ _⟩
  case round =>
    obtain ⟨k, hk, rfl, hsc, hbel⟩ := hrel
    by_cases hlt : k < s.size
    · have hks : (k : Int) < (s.size : Int) := by omega
      have hd := rone_any (w := wr) hs hlt
      rcases scan_at (l := s.data.toList) (by omega : k < s.data.toList.length) with ⟨h0, hr⟩ | ⟨h0, h1, h2, hr⟩
      · rw [hr] at hsc
        go_wp2_with fail
        refine hd.mono ?_
        rintro e w1 ⟨rfl, b1⟩
        go_wp2_with fail
        go_ret
        exact ⟨by rw [badI, ← hsc]; rfl, hbel.trans (b1.mono hbel.size)⟩
      · rw [hr] at hsc
        go_wp2_with fail
        refine hd.mono ?_
        rintro e w1 ⟨rfl, b1⟩
        go_wp2_with fail
        go_roundw
        case rel => exact ⟨k + (one (s.data.toList.drop k)).2, by omega, by go_num, hsc, hbel.trans (b1.mono hbel.size)⟩
        case measure => simp [intOf]; omega
    · obtain rfl : k = s.size := by omega
      go_wp2_with fail
      go_ret
      have e : s.data.toList.drop s.size = [] := List.drop_eq_nil_of_le (by omega)
      rw [e, scan_nil] at hsc
      exact ⟨by rw [badI, ← hsc]; rfl, hbel⟩
end Go.Proofs.YtlfbnfphocpgeaaGreatDoor.Utf
