/- The reader of package jdec as it landed: skip. Nothing is claimed here. -/
import Derived.Test.YtehpjidajmoggaaGreatDoorJdecRdr
import Derived.Test.YtehpjidajmoggaaGreatDoorJdecRef
import Derived.Test.YtehpjidajmoggaaGreatDoorQuoRdrC
namespace Go.Proofs.YtehpjidajmoggaaGreatDoor.Jdec
open Go.RowKit Kit Txt
open Utf (nb)

def blanksL : List UInt8 := [9, 10, 13, 32]
theorem blank_idx : ∀ x : Fin 256, (blank (UInt8.ofNat x.val) = true ∧ 0 ≤ Lib.indexByte blanksL (UInt8.ofNat x.val)) ∨ (blank (UInt8.ofNat x.val) = false ∧ Lib.indexByte blanksL (UInt8.ofNat x.val) < 0) := by decide +kernel
theorem blank_cases (c : UInt8) : (blank c = true ∧ 0 ≤ Lib.indexByte blanksL c) ∨ (blank c = false ∧ Lib.indexByte blanksL c < 0) := by
  have h := blank_idx ⟨c.toNat, c.toNat_lt⟩
  dsimp only at h
  rwa [show UInt8.ofNat c.toNat = c from UInt8.ofNat_toNat] at h
/-- Where the reader is. -/
def atN (R : Nat) (wx : World) : Nat := match wx.cell? ⟨R, 1, none⟩ with
  | some (.int _ z) => z.toNat
  | _ => 0
theorem atN_of {R : Nat} {s : List UInt8} {q : Nat} {o : Int} {u : Value} {w : World} (h : Rdr R s q o u w) : atN R w = q := by
  unfold atN
  rw [cell_of h 1]
  rfl
theorem skip_yes {s : List UInt8} {q : Nat} (h : q < s.length) (hb : blank s[q] = true) : skip (s.drop q) = skip (s.drop (q + 1)) := by
  unfold skip
  rw [List.drop_eq_getElem_cons h, List.dropWhile_cons, if_pos hb]
theorem skip_no {s : List UInt8} {q : Nat} (h : q < s.length) (hb : blank s[q] = false) : skip (s.drop q) = s.drop q := by
  unfold skip
  rw [List.drop_eq_getElem_cons h, List.dropWhile_cons, if_neg (by rw [hb]; decide)]
theorem skip_end {s : List UInt8} {q : Nat} (h : s.length ≤ q) : skip (s.drop q) = s.drop q := by
  rw [List.drop_eq_nil_of_le h]
  rfl
theorem skipAt_of {s : List UInt8} {q p : Nat} (hp : p ≤ s.length) (h : skip (s.drop q) = s.drop p) : skipAt s q = p := by
  unfold skipAt
  rw [h, List.length_drop]
  omega
theorem skipAt_id {s : List UInt8} {q : Nat} : q ≤ s.length → q ≤ skipAt s q := fun h => by
  have h2 := skip_le (s.drop q)
  rw [List.length_drop] at h2
  unfold skipAt
  omega

set_option maxRecDepth 100000 in
set_option maxHeartbeats 4000000 in
theorem mskip_any {w : World} {R : Nat} {s : List UInt8} {q : Nat} {o : Int} {u : Value} (hs : s.length < 100000) (hq : q ≤ s.length) (h : Rdr R s q o u w) :
    Calls Tryz.prog 28 #[rp R] w fun e w' => e = .returned (.tuple #[]) ∧ Rdr R s (skipAt s q) o u w' ∧ w.grownBy w' (some R) := by
  have hz := txt_size s
  unfold rp
  go_enter Tryz.func28, Tryz.ntmps28
  go_wp2_with fail
  go_loopw [30] (fun _ wr => ∃ p : Nat, Rdr R s p o u wr ∧ p ≤ s.length ∧ skip (s.drop q) = skip (s.drop p) ∧ w.grownBy wr (some R)) (fun _ wr => s.length - atN R wr)
  case atStart => exact ⟨q, h, hq, rfl, World.grownBy.refl _ _⟩
  case round =>
    clear h
    obtain ⟨p, hp, hle, hk, hg⟩ := hrel
    obtain ⟨c0, c1, c2, c3⟩ := four hp
    have hf := free_of hp 1
    have hm := atN_of hp
    have hwq : IntKind.i64.wrap ((p : Int) + 1) = (p : Int) + 1 := by simp only [IntKind.wrap, IntKind.signed, IntKind.bits]; simp; omega
    by_cases hlt : p < s.length
    · have hlt1 : decide (p < s.length) = true := decide_eq_true hlt
      have hlt' : (p : Int) < (s.length : Int) := by omega
      have hix := idx hlt
      rw [nb_get hlt] at hix
      have hib := fun wx => Quo.index_any (w := wx) blanksL s[p]
      rcases blank_cases s[p] with ⟨hb, hi⟩ | ⟨hb, hi⟩
      · have hk2 := hk.trans (skip_yes hlt hb)
        have hge : decide ((0 : Int) ≤ Lib.indexByte blanksL s[p]) = true := decide_eq_true hi
        generalize Lib.indexByte blanksL s[p] = z at *
        generalize (s[p]).toNat = y at *
        have fin : ∀ wx, Below wr.heap.size wr wx → Rdr R s (p + 1) o u (wx.setCell ⟨R, 1, none⟩ (.int .i64 ((p : Int) + 1))) ∧ w.grownBy (wx.setCell ⟨R, 1, none⟩ (.int .i64 ((p : Int) + 1))) (some R) := fun wx h1 => ⟨(hp.below h1).goes (p + 1), grown_trans (grown_below hg h1) (grown_cell _ _ _ _)⟩
        have HF := Lib.hid fin
        have HM := Lib.hid hm
        have HK := Lib.hid hk2
        have HI := Lib.hid hib
        clear hk hk2 fin hm hp hb hib hg
        unfold blanksL txt at HI
        go_wp2_with fail
        go_quiet ((go_at_call 43; exact Calls.quiet_of_same (HI.out _)))
        go_wp2_with fail
        have b9 := below_drewN (Below.refl wr.heap.size wr) nq
        go_roundw
        case rel => exact ⟨p + 1, (HF.out _ b9).1, by omega, HK.out, (HF.out _ b9).2⟩
        case measure =>
          have := atN_of (HF.out _ b9).1
          have := HM.out
          omega
      · have hk2 := hk.trans (skip_no hlt hb)
        have hge : decide ((0 : Int) ≤ Lib.indexByte blanksL s[p]) = false := decide_eq_false (by omega)
        generalize Lib.indexByte blanksL s[p] = z at *
        generalize (s[p]).toNat = y at *
        have hat := skipAt_of hle hk2
        have fin : ∀ wx, Below wr.heap.size wr wx → Rdr R s (skipAt s q) o u wx ∧ w.grownBy wx (some R) := fun wx h1 => ⟨by rw [hat]; exact hp.below h1, grown_below hg h1⟩
        have HF := Lib.hid fin
        have HI := Lib.hid hib
        clear hk hk2 fin hm hp hb hib hg hat
        unfold blanksL txt at HI
        go_wp2_with fail
        go_quiet ((go_at_call 43; exact Calls.quiet_of_same (HI.out _)))
        go_wp2_with fail
        go_end0
        exact ⟨rfl, HF.out _ (below_drewN (Below.refl wr.heap.size wr) _)⟩
    · have hlt1 : decide (p < s.length) = false := decide_eq_false hlt
      have hk2 := hk.trans (skip_end (by omega))
      have hat := skipAt_of hle hk2
      have fin : ∀ wx, Below wr.heap.size wr wx → Rdr R s (skipAt s q) o u wx ∧ w.grownBy wx (some R) := fun wx h1 => ⟨by rw [hat]; exact hp.below h1, grown_below hg h1⟩
      have HF := Lib.hid fin
      clear hk hk2 fin hm hp hg hat
      go_wp2_with fail
      go_quiet (fail)
      go_wp2_with fail
      go_end0
      exact ⟨rfl, HF.out _ (below_drewN (Below.refl wr.heap.size wr) _)⟩
end Go.Proofs.YtehpjidajmoggaaGreatDoor.Jdec
