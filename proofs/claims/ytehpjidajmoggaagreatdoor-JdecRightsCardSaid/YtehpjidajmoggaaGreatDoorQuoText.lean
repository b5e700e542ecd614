/- The reader of package quote as it landed: the whole quoted text. Nothing is claimed here. -/
import Derived.Test.YtehpjidajmoggaaGreatDoorQuoPlain
import Derived.Test.YtehpjidajmoggaaGreatDoorQuoRdrC
import Derived.Test.YtehpjidajmoggaaGreatDoorBldT
import Derived.StillTailTactics
namespace Go.Proofs.YtehpjidajmoggaaGreatDoor.Quo
open Go.RowKit Kit Txt Utf Bld

theorem grown_below {a b c : World} {row : Option Nat} (h : a.grownBy b row) (k : Below a.heap.size b c) : a.grownBy c row :=
  ⟨k.os.trans h.os, k.tape.trans h.tape, k.output.trans h.output, Nat.le_trans h.size k.size, fun i hi hr => (k.block i hi).trans (h.block i hi hr)⟩
theorem laid_grown {w w' : World} {R : Nat} (h : Laid w) (k : w.grownBy w' (some R)) (hR : 4 < R) : Laid w' := by
  obtain ⟨t, f, h0⟩ := h
  exact ⟨t, f, (k.block _ (lt_of_heap h0) (fun e => by cases e; omega)).trans h0⟩
/-- How much is left. -/
def leftN (R : Nat) (wx : World) : Nat := match wx.cell? ⟨R, 0, none⟩ with
  | some (.string s) => s.size
  | _ => 0
theorem leftN_of {R : Nat} {l : List UInt8} {wx : World} (h : Rdr R l wx) : leftN R wx = l.length := by
  unfold leftN
  rw [cell_of h 0]
  exact txt_size l
theorem scan_want (l : List UInt8) : (wantE 34 l ≠ 0 ∧ scan l = err (wantE 34 l)) ∨ (∃ r, l = 34 :: r ∧ wantE 34 l = 0 ∧ scan l = scanF [] 1 r) := by
  cases l with
  | nil => exact .inl ⟨by decide, rfl⟩
  | cons c r =>
    by_cases h : c = 34
    · subst h
      exact .inr ⟨r, rfl, rfl, rfl⟩
    · have e : wantE 34 (c :: r) = 3 := if_neg h
      refine .inl ⟨by rw [e]; decide, ?_⟩
      rw [e]
      exact if_pos h
theorem not_asIs {c : Nat} (h : ¬ AsIs c) : UInt8.ofNat c = 34 ∨ UInt8.ofNat c = 92 ∨ (UInt8.ofNat c).toNat < 32 := by
  unfold AsIs at h
  by_cases h1 : c = 34
  · exact .inl (by rw [h1]; rfl)
  by_cases h2 : c = 92
  · exact .inr (.inl (by rw [h2]; rfl))
  · exact .inr (.inr (by rw [nbc (by omega)]; omega))
/-- What text tells. -/
def Text (R : Nat) (l : List UInt8) (w : World) (e : Ending) (w' : World) : Prop := w.grownBy w' (some R) ∧
  (((scan l).e = 0 ∧ e = .returned (.string (txt (scan l).s)) ∧ ∃ rest, Rdr R rest w' ∧ rest.length + (scan l).size = l.length) ∨ ((scan l).e ≠ 0 ∧ e = thrown (scan l).e))

set_option maxRecDepth 100000 in
set_option maxHeartbeats 4000000 in
theorem mtext_any {w : World} {R : Nat} {l : List UInt8} (hl : l.length < 100000) (hT : Laid w) (hRg : 4 < R) (h : Rdr R l w) :
    Calls Tryz.prog 54 #[rp R] w (Text R l w) := by
  have hR := lt_of_heap h
  have hb0 := Bld.new w
  have g0 : w.grownBy (w.alloc (.cells #[.pointer none, .slice none 0 0] 103)) (some R) := World.grownBy_alloc w _ _
  have h0 : Rdr R l (w.alloc (.cells #[.pointer none, .slice none 0 0] 103)) := new_of h _
  have hw := mwant_any (c := 34) (x := 34) h0 rfl
  have hp := fun wx rx (hx : Rdr R rx wx) (hr : rx.length < 1000000000) (ht : Laid wx) => mplain_any hr ht hx
  have hs := fun wx a b (hx : Bld w.heap.size w.heap.size a wx) (ha : a.length < 1000000) (hb : b.length < 1000000) => str_any hx ha (m := b) hb
  have hn := fun wx c r (hx : Rdr R (c :: r) wx) => next_cons hx
  have he := fun wx r (hx : Rdr R r wx) => mescaped_any hx
  have hst := fun wx a (hx : Bld w.heap.size w.heap.size a wx) => string_any hx
  unfold rp at *
  rcases scan_want l with ⟨hwe, hsc⟩ | ⟨r0, rfl, hwe, hsc⟩
  · have hS := Lib.hid hsc
    clear hsc hp hs hn he hst
    go_enter Tryz.func54, Tryz.ntmps54
    go_wp2_with fail
    refine hw.mono ?_
    rintro e w1 ⟨k1, (⟨hk, -, -⟩ | ⟨hk, rfl⟩)⟩
    · exact absurd hk hwe
    refine ⟨rfl, grownBy.trans g0 k1, .inr ?_⟩
    rw [hS.out]
    exact ⟨hk, rfl⟩
  rw [hwe] at hw
  have hS := Lib.hid hsc
  clear hwe
  clear hsc
  go_enter Tryz.func54, Tryz.ntmps54
  go_wp2_with fail
  refine hw.mono ?_
  rintro e w1 ⟨k1, (⟨-, rfl, h1⟩ | ⟨hk, -⟩)⟩
  case inr => exact absurd rfl hk
  have hb1 := Bld.other hb0 k1 hR
  have g1 := grownBy.trans g0 k1
  rw [List.tail_cons] at h1
  clear hw hb0 h0 g0 k1
  go_wp2_with fail
  go_loopw [6] (fun _ wr => ∃ (s rest : List UInt8) (at' : Nat), Rdr R rest wr ∧ Bld w.heap.size w.heap.size s wr ∧ w.grownBy wr (some R) ∧ scanF s at' rest = scan (34 :: r0) ∧ at' + rest.length = (34 :: r0).length ∧ s.length ≤ 4 * at') (fun _ wr => leftN R wr)
  case atStart => exact ⟨[], r0, 1, h1, hb1, g1, hS.out.symm, by simp; omega, by simp⟩
  case round =>
    clear h1 hb1 g1
    obtain ⟨s, rest, at', hRd, hBl, hg, hF, hat, hsl⟩ := hrel
    have hle := leftN_of hRd
    have hF' := Lib.hid hF
    clear hF
    go_wp2_with fail
    refine (hp _ _ hRd (by omega) (laid_grown hT hg hRg)).mono ?_
    rintro e w2 ⟨k2, (⟨k, c, r, hk, hdk, hA, hsc, rfl, h2⟩ | ⟨q, hq, hsc, rfl⟩)⟩
    case inr =>
      refine ⟨rfl, grownBy.trans hg k2, .inr ?_⟩
      have : scan (34 :: r0) = err q := hF'.out.symm.trans (hsc s at')
      rw [this]
      exact ⟨hq, rfl⟩
    have hb2 := Bld.other hBl k2 hR
    have g2 := grownBy.trans hg k2
    have hF2 := Lib.hid (hF'.out.symm.trans (hsc s at'))
    rw [hdk] at h2
    have hdl : rest.length = k + (r.length + 1) := by
      have := congrArg List.length hdk
      rw [List.length_drop, List.length_cons] at this
      omega
    go_wp2_with fail
    refine (hs _ _ _ hb2 (by omega) (by rw [List.length_take]; omega)).mono ?_
    rintro e w3 ⟨rfl, hb3, k3⟩
    have h3 := h2.below k3 hR
    have g3 := grown_below g2 k3
    rcases not_asIs hA with hb | hb | hb
    · rw [hb] at h3 hdk
      have hF3 : scan (34 :: r0) = ⟨s ++ rest.take k, at' + k + 1, 0⟩ := by
        rw [hF2.out, hdk]
        exact scanF_end rfl
      have hF4 := Lib.hid hF3
      clear hF3 he hp hs
      go_wp2_with fail
      refine (hn _ _ _ h3).mono ?_
      rintro e w4 ⟨rfl, h4, k4⟩
      have hb4 := Bld.other hb3 k4 hR
      have g4 := grownBy.trans g3 k4
      go_wp2_with fail
      refine (hst _ _ hb4).mono ?_
      rintro e w5 ⟨rfl, k5⟩
      go_wp2_with fail
      go_ret
      refine ⟨grown_below g4 k5, .inl ?_⟩
      rw [hF4.out]
      exact ⟨rfl, rfl, r, h4.below k5 hR, by show r.length + (at' + k + 1) = _; omega⟩
    · rw [hb] at h3 hdk
      have hF3 := hF2.out
      rw [hdk] at hF3
      have hdr := fun wx (hx : Rdr R r wx) => he wx r hx
      have hok := fun (h : (part (92 :: r)).e = 0) => part_ok h
      by_cases hpe : (part (92 :: r)).e = 0
      · rw [scanF_on (by simp) hpe] at hF3
        obtain ⟨c', e1, e2, e3, e4⟩ := hok hpe
        rw [hpe] at hdr
        have hl4 := (enc_len (c := c')).2
        rw [← e2] at hl4
        rw [List.length_cons] at e4
        have hdl2 : ((92 :: r).drop (part (92 :: r)).size).length = r.length + 1 - (part (92 :: r)).size := by rw [List.length_drop, List.length_cons]
        generalize part (92 :: r) = p at *
        have hF4 := Lib.hid hF3
        clear hF3 hok hpe e1 e2
        generalize (92 :: r).drop p.size = rest2 at *
        go_wp2_with fail
        refine (hn _ _ _ h3).mono ?_
        rintro e w4 ⟨rfl, h4, k4⟩
        have hb4 := Bld.other hb3 k4 hR
        have g4 := grownBy.trans g3 k4
        go_wp2_with fail
        refine (hdr _ h4).mono ?_
        rintro e w5 ⟨k5, (⟨-, rfl, h5⟩ | ⟨hk, -⟩)⟩
        case inr => exact absurd rfl hk
        have hb5 := Bld.other hb4 k5 hR
        have g5 := grownBy.trans g4 k5
        go_wp2_with fail
        refine (hs _ _ _ hb5 (by rw [List.length_append, List.length_take]; omega) (by omega)).mono ?_
        rintro e w6 ⟨rfl, hb6, k6⟩
        have h6 := h5.below k6 hR
        have hle6 := leftN_of h6
        go_wp2_with fail
        go_roundw
        case rel => exact ⟨s ++ rest.take k ++ p.s, rest2, at' + k + p.size, h6, hb6, grown_below g5 k6, hF4.out.symm, by omega, by rw [List.length_append, List.length_append, List.length_take]; omega⟩
        case measure => rw [hle6, hle]; omega
      · rw [scanF_err (by simp) hpe] at hF3
        generalize part (92 :: r) = p at *
        have hF4 := Lib.hid hF3
        clear hF3 hok hs hp
        go_wp2_with fail
        refine (hn _ _ _ h3).mono ?_
        rintro e w4 ⟨rfl, h4, k4⟩
        have g4 := grownBy.trans g3 k4
        go_wp2_with fail
        refine (hdr _ h4).mono ?_
        rintro e w5 ⟨k5, (⟨hk, -, -⟩ | ⟨hk, rfl⟩)⟩
        · exact absurd hk hpe
        refine ⟨rfl, grownBy.trans g4 k5, .inr ?_⟩
        rw [hF4.out]
        exact ⟨hk, rfl⟩
    · have hF3 := hF2.out
      rw [hdk] at hF3
      generalize UInt8.ofNat c = b at *
      have hp3 : part (b :: r) = err 3 := if_pos hb
      have h34 : ((b.toNat : Int) == 34) = false := by simp; omega
      have h92 : ((b.toNat : Int) == 92) = false := by simp; omega
      rw [scanF_err (by simp; rintro rfl; revert hb; decide) (by rw [hp3]; decide), hp3] at hF3
      have hF4 := Lib.hid hF3
      clear hF3 hs hp he hp3
      go_wp2_with fail
      refine (hn _ _ _ h3).mono ?_
      rintro e w4 ⟨rfl, h4, k4⟩
      have g4 := grownBy.trans g3 k4
      go_wp2_with fail
      refine ⟨rfl, g4, .inr ?_⟩
      rw [hF4.out]
      exact ⟨by decide, rfl⟩
end Go.Proofs.YtehpjidajmoggaaGreatDoor.Quo
