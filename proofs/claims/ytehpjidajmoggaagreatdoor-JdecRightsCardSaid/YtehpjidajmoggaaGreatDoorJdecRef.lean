/- The contract of the document's own answer for layer 9 (package tabulariumref09): Blanks. Nothing is claimed here. -/
import Derived.Test.YtehpjidajmoggaaGreatDoorJdecMore
import Derived.Test.YtehpjidajmoggaaGreatDoorTexts
import Derived.Lib.Hide
namespace Go.Proofs.YtehpjidajmoggaaGreatDoor.Jdec
open Go.RowKit Kit Txt
open Utf (nb)

/-- Where blanks end. -/
def skipAt (l : List UInt8) (i : Nat) : Nat := l.length - (skip (l.drop i)).length
theorem skip_on {l : List UInt8} {q : Nat} (h : q < l.length) (hb : nb l q = 9 ∨ nb l q = 10 ∨ nb l q = 13 ∨ nb l q = 32) : skip (l.drop q) = skip (l.drop (q + 1)) := by
  rw [nb_get h] at hb
  have : blank l[q] = true := by
    unfold blank
    rw [decide_eq_true_eq]
    rcases hb with hb | hb | hb | hb
    · exact .inl (UInt8.toNat_inj.1 hb)
    · exact .inr (.inl (UInt8.toNat_inj.1 hb))
    · exact .inr (.inr (.inl (UInt8.toNat_inj.1 hb)))
    · exact .inr (.inr (.inr (UInt8.toNat_inj.1 hb)))
  unfold skip
  rw [List.drop_eq_getElem_cons h, List.dropWhile_cons, if_pos this]
theorem skip_stop {l : List UInt8} {q : Nat} (hb : nb l q ≠ 9 ∧ nb l q ≠ 10 ∧ nb l q ≠ 13 ∧ nb l q ≠ 32) : skip (l.drop q) = l.drop q := by
  by_cases h : q < l.length
  · rw [nb_get h] at hb
    have : blank l[q] = false := by
      unfold blank
      rw [decide_eq_false_iff_not]
      rintro (e | e | e | e) <;> (rw [e] at hb; revert hb; decide)
    unfold skip
    rw [List.drop_eq_getElem_cons h, List.dropWhile_cons, if_neg (by rw [this]; decide)]
  · rw [List.drop_eq_nil_of_le (by omega)]
    rfl
theorem skipAt_le (l : List UInt8) (i : Nat) : skipAt l i ≤ l.length := Nat.sub_le _ _
theorem skipAt_drop {l : List UInt8} {i : Nat} : l.drop (skipAt l i) = skip (l.drop i) := by
  have hs : skip (l.drop i) <:+ l := (skip_suf _).trans (List.drop_suffix _ _)
  exact (List.suffix_iff_eq_drop.1 hs).symm

set_option maxRecDepth 100000 in
set_option maxHeartbeats 8000000 in
theorem rblanks_any {w : World} {l : List UInt8} {i : Nat} (hl : l.length < 100000) (hi : i ≤ l.length) :
    Calls Tryz.prog 19 #[.string (txt l), .int .i64 i] w fun e w' => e = .returned (.int .i64 (skipAt l i)) ∧ w' = w := by
  have hs := txt_size l
  go_enter Tryz.func19, Tryz.ntmps19
  go_wp2_with fail
  go_loopw [1] (fun a wr => ∃ q : Nat, a = .int .i64 q ∧ wr = w ∧ q ≤ l.length ∧ skip (l.drop i) = skip (l.drop q)) (fun a _ => l.length - (intOf a).toNat)
  case atStart => exact ⟨i, rfl, rfl, hi, rfl⟩
  case round =>
    obtain ⟨q, rfl, rfl, hq, hk⟩ := hrel
    have hwq : IntKind.i64.wrap ((q : Int) + 1) = (q : Int) + 1 := by simp only [IntKind.wrap, IntKind.signed, IntKind.bits]; simp; omega
    by_cases hlt : q < l.length
    · have hlt1 : decide (q < l.length) = true := decide_eq_true hlt
      have hlt' : (q : Int) < (l.length : Int) := by omega
      have hix := idx hlt
      have on := fun h => skip_on (l := l) (q := q) hlt h
      have off := fun h => skip_stop (l := l) (q := q) h
      generalize nb l q = x at *
      by_cases hb : x = 9 ∨ x = 10 ∨ x = 13 ∨ x = 32
      · have HK := Lib.hid (hk.trans (on hb))
        clear on off hk
        rcases hb with rfl | rfl | rfl | rfl
        all_goals
          go_wp2_with fail
          go_roundw
          case rel => exact ⟨q + 1, by go_num, by first | rfl | assumption | simp, by omega, HK.out⟩
          case measure => simp [intOf]; omega
      · have h9 : ((x : Int) == 9) = false := by simp; omega
        have h10 : ((x : Int) == 10) = false := by simp; omega
        have h13 : ((x : Int) == 13) = false := by simp; omega
        have h32 : ((x : Int) == 32) = false := by simp; omega
        have hk' := hk.trans (off (by omega))
        have : skipAt l i = q := by unfold skipAt; rw [hk', List.length_drop]; omega
        have HC := Lib.hid this
        clear on off hk hk' this hb
        go_wp2_with fail
        exact bodyPost_ret (v := .int .i64 q) (by simp [results, Tryz.results19, go_sem, *]) rfl ⟨by rw [HC.out], rfl⟩
    · have hlt1 : decide (q < l.length) = false := decide_eq_false hlt
      have hk' := hk.trans (skip_stop (by rw [nb_past (by omega)]; omega))
      have : skipAt l i = q := by unfold skipAt; rw [hk', List.length_drop]; omega
      have HC := Lib.hid this
      clear hk hk' this
      go_wp2_with fail
      exact bodyPost_ret (v := .int .i64 q) (by simp [results, Tryz.results19, go_sem, *]) rfl ⟨by rw [HC.out], rfl⟩
end Go.Proofs.YtehpjidajmoggaaGreatDoor.Jdec
