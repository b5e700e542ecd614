/- The contracts of package quote as it landed, in the words that the laws' walks take. Nothing is claimed here. -/
import Derived.Test.YtlgkidadpklkjaaDoorQuoScn
import Derived.Test.YtlgkidadpklkjaaDoorQuoPrt
namespace Go.Proofs.YtlgkidadpklkjaaDoor.Quo
open Go.RowKit Kit Txt Utf Bld

/-- What the world must hold: utf's table. -/
def Ok (w : World) : Prop := Laid w
theorem Ok.below {w w' : World} (h : Ok w) (k : Below w.heap.size w w') : Ok w' := Laid.below h k (Laid.lt h)

theorem qscan_any {w : World} (ho : Ok w) {l : List UInt8} (hl : l.length < 100000) :
    Calls Tryd.prog 13 #[.string (txt l)] w fun e w' => e = .returned (.tuple #[.string (txt (scan l).s), .int .i64 ((scan l).size : Int), .int .i64 ((scan l).e : Int)]) ∧ Below w.heap.size w w' := qscan_laid hl ho

set_option maxRecDepth 100000 in
set_option maxHeartbeats 1000000 in
theorem qparse_any {w : World} (ho : Ok w) {l : List UInt8} (hl : l.length < 100000) :
    Calls Tryd.prog 11 #[.string (txt l)] w fun e w' => e = .returned (.tuple #[.string (txt (parse l).1), .int .i64 ((parse l).2 : Int)]) ∧ Below w.heap.size w w' := by
  have hs := qscan_any ho hl
  have hz := txt_size l
  have ht0 : (⟨#[]⟩ : ByteArray) = txt [] := rfl
  have hcs : ((scan l).e ≠ 0 ∧ parse l = ([], (scan l).e)) ∨ ((scan l).e = 0 ∧ (scan l).size < l.length ∧ parse l = ([], 14)) ∨ ((scan l).e = 0 ∧ (scan l).size = l.length ∧ parse l = ((scan l).s, 0)) := by
    by_cases h1 : (scan l).e = 0
    · have hz := (scan_ok h1).2.2
      by_cases h2 : (scan l).size < l.length
      · exact .inr (.inl ⟨h1, h2, by unfold parse; rw [if_neg (by omega), if_pos h2]⟩)
      · exact .inr (.inr ⟨h1, by omega, by unfold parse; rw [if_neg (by omega), if_neg h2]⟩)
    · exact .inl ⟨h1, by unfold parse; rw [if_pos h1]⟩
  generalize scan l = p at *
  generalize parse l = pz at *
  obtain ⟨s, z, e⟩ := p
  dsimp only at *
  rcases hcs with ⟨h1, rfl⟩ | ⟨rfl, h2, rfl⟩ | ⟨rfl, h2, rfl⟩
  · have he' : ((e : Int) != 0) = true := by simpa using h1
    clear h1
    go_enter Tryd.func11, Tryd.ntmps11
    go_wp2_with fail
    refine hs.mono ?_
    rintro _ w1 ⟨rfl, k1⟩
    go_wp2_with fail
    go_ret2
    exact ⟨rfl, k1⟩
  · have h2' : (z : Int) < (l.length : Int) := by omega
    go_enter Tryd.func11, Tryd.ntmps11
    go_wp2_with fail
    refine hs.mono ?_
    rintro _ w1 ⟨rfl, k1⟩
    go_wp2_with fail
    go_ret2
    exact ⟨rfl, k1⟩
  · obtain rfl : z = l.length := h2
    have h2' : decide (l.length < l.length) = false := by simp
    go_enter Tryd.func11, Tryd.ntmps11
    go_wp2_with fail
    refine hs.mono ?_
    rintro _ w1 ⟨rfl, k1⟩
    go_wp2_with fail
    go_ret2
    exact ⟨rfl, k1⟩

def hexL : List UInt8 := [48, 49, 50, 51, 52, 53, 54, 55, 56, 57, 97, 98, 99, 100, 101, 102]
theorem esc_how : ∀ x : Fin 256, (AsIs x.val ∧ esc (UInt8.ofNat x.val) = [UInt8.ofNat x.val]) ∨
    (¬ AsIs x.val ∧ ∃ i : Fin 8, Lib.indexByte meansL (UInt8.ofNat x.val) = (i.val : Int) ∧ esc (UInt8.ofNat x.val) = [92, signsL.getD i.val 0]) ∨
    (¬ AsIs x.val ∧ Lib.indexByte meansL (UInt8.ofNat x.val) = -1 ∧ esc (UInt8.ofNat x.val) = [92, 117, 48, 48, hexL.getD (x.val / 16) 0, hexL.getD (x.val % 16) 0]) := by decide +kernel
theorem esc_cases (c : UInt8) : (AsIs c.toNat ∧ esc c = [c]) ∨ (¬ AsIs c.toNat ∧ ∃ i : Nat, i < 8 ∧ Lib.indexByte meansL c = (i : Int) ∧ esc c = [92, signsL.getD i 0]) ∨
    (¬ AsIs c.toNat ∧ Lib.indexByte meansL c = -1 ∧ esc c = [92, 117, 48, 48, hexL.getD (c.toNat / 16) 0, hexL.getD (c.toNat % 16) 0]) := by
  have h := esc_how ⟨c.toNat, c.toNat_lt⟩
  dsimp only at h
  rw [show UInt8.ofNat c.toNat = c from UInt8.ofNat_toNat] at h
  exact h.imp id (Or.imp (fun ⟨h0, i, h1, h2⟩ => ⟨h0, i.val, i.isLt, h1, h2⟩) id)
theorem idx8 {l : List UInt8} {i : Nat} (h : i < l.length) (wx : World) : (Instr.index 9 (.string (txt l)) (.int .u8 (i : Int))).run Tryd.prog wx = .ok (.int .u8 ((l.getD i 0).toNat : Int)) wx := by
  have hs := txt_size l
  rw [run_index_string wx 9 (txt l) .u8 i Tryd.underlying9, dif_pos ⟨by omega, by omega⟩]
  congr 3
  rw [List.getD_eq_getElem?_getD, List.getElem?_eq_getElem h]
  rfl
theorem idx64 {l : List UInt8} {i : Nat} (h : i < l.length) (wx : World) : (Instr.index 9 (.string (txt l)) (.int .i64 (i : Int))).run Tryd.prog wx = .ok (.int .u8 ((l.getD i 0).toNat : Int)) wx := idx h wx
theorem and15 : ∀ x : Nat, x < 256 → bits .and .u8 (x : Int) 15 = ((x % 16 : Nat) : Int) := by decide +kernel
theorem flat_step {l : List UInt8} {k : Nat} (h : k < l.length) : (l.take (k + 1)).flatMap esc = (l.take k).flatMap esc ++ esc l[k] := by
  rw [List.take_succ_eq_append_getElem h, List.flatMap_append]
  simp

set_option maxRecDepth 100000 in
set_option maxHeartbeats 4000000 in
theorem qprint_any {w : World} (ho : Ok w) {l : List UInt8} (hl : l.length < 100000) :
    Calls Tryd.prog 9 #[.string (txt l)] w fun e w' => e = .returned (.tuple #[.string (txt (if bad l = none then print l else [])), .int .i64 ((if bad l = none then 0 else 7 : Nat) : Int)]) ∧ Below w.heap.size w w' := by
  have hz := txt_size l
  have ht0 : (⟨#[]⟩ : ByteArray) = txt [] := rfl
  have hv := valid_any (w := w) (s := txt l) (by omega) ho
  rw [txt_list, decide_eq_decide.2 (badI_neg l)] at hv
  by_cases hb : bad l = none
  case neg =>
    rw [decide_eq_false hb] at hv
    simp only [if_neg hb]
    clear hb
    go_enter Tryd.func9, Tryd.ntmps9
    go_wp2_with fail
    refine hv.mono ?_
    rintro _ w1 ⟨rfl, k1⟩
    go_wp2_with fail
    go_ret2
    exact ⟨rfl, k1⟩
  rw [decide_eq_true hb] at hv
  simp only [if_pos hb]
  clear hb
  have hby := fun (B : Nat) (wx : World) (a : List UInt8) (c : UInt8) (x : Int) (h : Bld B B a wx) (ha : a.length < 1000000) (hx : x = (c.toNat : Int)) => byte_any h ha (c := c) hx
  have hst := fun (B : Nat) (wx : World) (a b : List UInt8) (h : Bld B B a wx) (ha : a.length < 1000000) (hb : b.length < 1000000) => str_any h ha (m := b) hb
  have hsg := fun (B : Nat) (wx : World) (a : List UInt8) (h : Bld B B a wx) => string_any h
  have hpr : print l = 34 :: (l.flatMap esc ++ [34]) := rfl
  have hP := Lib.hid hpr
  clear hpr
  go_enter Tryd.func9, Tryd.ntmps9
  go_wp2_with fail
  refine hv.mono ?_
  rintro _ w1 ⟨rfl, k1⟩
  have b0 := Bld.new w1
  have q0 : Below w.heap.size w (w1.alloc (.cells #[.pointer none, .slice none 0 0] 39)) := k1.alloc k1.size _
  go_wp2_with fail
  refine (hby _ _ _ 34 _ b0 (by simp) rfl).mono ?_
  rintro _ w2 ⟨rfl, b2, k2⟩
  have q2 := q0.trans (k2.mono k1.size)
  have hBw := k1.size
  rw [List.nil_append] at b2
  go_wp2_with fail
  go_loopw [14] (fun i wr => ∃ k : Nat, k ≤ l.length ∧ i = .int .i64 (k : Int) ∧ Bld w1.heap.size w1.heap.size (34 :: (l.take k).flatMap esc) wr ∧ Below w.heap.size w wr ∧ ((l.take k).flatMap esc).length ≤ 6 * k) (fun i _ => l.length - (intOf i).toNat)
  case atStart => exact ⟨0, Nat.zero_le _, rfl, b2, q2, by simp⟩
  case round =>
    clear b2 q2 b0 q0 hv
    obtain ⟨k, hk, rfl, hB, hq, hlen⟩ := hrel
    by_cases hlt : k < l.length
    · have hks : (k : Int) < (l.length : Int) := by omega
      have hix := idx hlt
      rw [nb_get hlt] at hix
      have hfs := flat_step hlt
      have hc := esc_cases l[k]
      have hai := fun wx => asItIs_any (w := wx) (c := (l[k]).toNat) (x := ((l[k]).toNat : Int)) rfl
      have hib := fun wx => index_any (w := wx) meansL l[k]
      have tm : (⟨#[34, 92, 47, 8, 12, 10, 13, 9]⟩ : ByteArray) = txt meansL := rfl
      have ts : (⟨#[34, 92, 47, 98, 102, 110, 114, 116]⟩ : ByteArray) = txt signsL := rfl
      have th : (⟨#[48, 49, 50, 51, 52, 53, 54, 55, 56, 57, 97, 98, 99, 100, 101, 102]⟩ : ByteArray) = txt hexL := rfl
      have tu : (⟨#[92, 117, 48, 48]⟩ : ByteArray) = txt [92, 117, 48, 48] := rfl
      have hlt8 : (l[k]).toNat < 256 := (l[k]).toNat_lt
      rcases hc with ⟨h1, h2⟩ | ⟨h1, i, hi, h2, h3⟩ | ⟨h1, h2, h3⟩
      · simp only [decide_eq_true h1] at hai
        rw [h2] at hfs
        have hF := Lib.hid hfs
        clear hfs h1 h2 hib tm ts th tu hst
        generalize l[k] = c at *
        go_wp2_with fail
        refine (hai _).mono ?_
        rintro _ w3 ⟨rfl, rfl⟩
        go_wp2_with fail
        refine (hby _ _ _ c _ hB (by rw [List.length_cons]; omega) rfl).mono ?_
        rintro _ w4 ⟨rfl, b4, k4⟩
        go_wp2_with fail
        go_roundw
        case rel => exact ⟨k + 1, by omega, by go_num, by rw [hF.out]; exact b4, hq.trans (k4.mono hBw), by rw [hF.out, List.length_append, List.length_singleton]; omega⟩
        case measure => simp [intOf]; omega
      · simp only [decide_eq_false h1] at hai
        simp only [h2] at hib
        rw [h3] at hfs
        have hF := Lib.hid hfs
        have hsi := fun wx => idx64 (l := signsL) (i := i) hi wx
        have d0 : (0 : Int) ≤ (i : Int) := by omega
        clear hfs h1 h2 h3 th tu hst
        generalize signsL.getD i 0 = sg at *
        generalize l[k] = c at *
        go_wp2_with fail
        refine (hai _).mono ?_
        rintro _ w3 ⟨rfl, rfl⟩
        go_wp2_with fail
        refine (hib _).mono ?_
        rintro _ w3 ⟨rfl, rfl⟩
        go_wp2_with fail
        refine (hby _ _ _ 92 _ hB (by rw [List.length_cons]; omega) rfl).mono ?_
        rintro _ w4 ⟨rfl, b4, k4⟩
        go_wp2_with fail
        refine (hby _ _ _ sg _ b4 (by rw [List.length_append, List.length_cons, List.length_singleton]; omega) rfl).mono ?_
        rintro _ w5 ⟨rfl, b5, k5⟩
        go_wp2_with fail
        go_roundw
        case rel => exact ⟨k + 1, by omega, by go_num, by rw [hF.out]; rw [List.append_assoc] at b5; exact b5, hq.trans ((k4.trans k5).mono hBw), by rw [hF.out, List.length_append]; show _ + 2 ≤ _; omega⟩
        case measure => simp [intOf]; omega
      · simp only [decide_eq_false h1] at hai
        simp only [h2] at hib
        rw [h3] at hfs
        have hF := Lib.hid hfs
        have hi1 := fun wx => idx8 (l := hexL) (i := (l[k]).toNat / 16) (by show _ < 16; omega) wx
        have hi2 := fun wx => idx8 (l := hexL) (i := (l[k]).toNat % 16) (by show _ < 16; omega) wx
        have ha := and15 (l[k]).toNat hlt8
        have hd : ((l[k]).toNat : Int) / 16 = (((l[k]).toNat / 16 : Nat) : Int) := by omega
        clear hfs h1 h2 h3 ts
        generalize hexL.getD ((l[k]).toNat / 16) 0 = g1 at *
        generalize hexL.getD ((l[k]).toNat % 16) 0 = g2 at *
        generalize (l[k]).toNat / 16 = n1 at *
        generalize (l[k]).toNat % 16 = n2 at *
        generalize l[k] = c at *
        go_wp2_with fail
        refine (hai _).mono ?_
        rintro _ w3 ⟨rfl, rfl⟩
        go_wp2_with fail
        refine (hib _).mono ?_
        rintro _ w3 ⟨rfl, rfl⟩
        go_wp2_with fail
        refine (hst _ _ _ [92, 117, 48, 48] hB (by rw [List.length_cons]; omega) (by decide)).mono ?_
        rintro _ w4 ⟨rfl, b4, k4⟩
        go_wp2_with fail
        refine (hby _ _ _ g1 _ b4 (by rw [List.length_append, List.length_cons]; show _ + 4 < _; omega) rfl).mono ?_
        rintro _ w5 ⟨rfl, b5, k5⟩
        go_wp2_with fail
        refine (hby _ _ _ g2 _ b5 (by rw [List.length_append, List.length_append, List.length_cons]; show _ + 4 + 1 < _; omega) rfl).mono ?_
        rintro _ w6 ⟨rfl, b6, k6⟩
        go_wp2_with fail
        go_roundw
        case rel => exact ⟨k + 1, by omega, by go_num, by rw [hF.out]; rw [List.append_assoc, List.append_assoc] at b6; exact b6, hq.trans (((k4.trans k5).trans k6).mono hBw), by rw [hF.out, List.length_append]; show _ + 6 ≤ _; omega⟩
        case measure => simp [intOf]; omega
    · obtain rfl : k = l.length := by omega
      rw [List.take_of_length_le (Nat.le_refl _)] at hB hlen
      go_wp2_with fail
      refine (hby _ _ _ 34 _ hB (by rw [List.length_cons]; omega) rfl).mono ?_
      rintro _ w4 ⟨rfl, b4, k4⟩
      go_wp2_with fail
      refine (hsg _ _ _ b4).mono ?_
      rintro _ w5 ⟨rfl, k5⟩
      go_wp2_with fail
      go_ret2
      rw [hP.out]
      exact ⟨rfl, hq.trans ((k4.trans k5).mono hBw)⟩
end Go.Proofs.YtlgkidadpklkjaaDoor.Quo
