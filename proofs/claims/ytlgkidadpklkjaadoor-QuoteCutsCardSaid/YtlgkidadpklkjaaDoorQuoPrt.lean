/- The contract of the document's own answer for layer 7 (package tabulariumref07): Print. Nothing is claimed here. -/
import Derived.Test.YtlgkidadpklkjaaDoorQuoScan
import Derived.Deep.RegionWith
namespace Go.Proofs.YtlgkidadpklkjaaDoor.Quo
open Go.RowKit Kit Txt Utf

theorem esc_len (c : UInt8) : (esc c).length ≤ 6 := by
  unfold esc
  split
  · simp
  · split <;> simp
theorem escs_len (l : List UInt8) : (l.flatMap esc).length ≤ 6 * l.length := by
  induction l with
  | nil => simp
  | cons c l ih =>
    rw [List.flatMap_cons, List.length_append, List.length_cons]
    have := esc_len c
    omega

set_option maxRecDepth 100000 in
set_option maxHeartbeats 8000000 in
theorem rprint_any {w : World} {l : List UInt8} (hl : l.length < 1000000) :
    Calls Tryd.prog 12 #[.string (txt l)] w fun e w' => e = .returned (.string (txt (print l))) ∧ Below w.heap.size w w' := by
  have hs := txt_size l
  go_enter Tryd.func12, Tryd.ntmps12
  go_wp2_with fail
  go_loopw [3, 4] (fun o i wr => ∃ k : Nat, k ≤ l.length ∧ o = .string (txt (34 :: (l.take k).flatMap esc)) ∧ i = .int .i64 k ∧ Below w.heap.size w wr) (fun _ i _ => l.length - (intOf i).toNat)
  case atStart => exact ⟨0, Nat.zero_le _, rfl, rfl, Below.refl _ _⟩
  case round =>
    obtain ⟨k, hk, rfl, rfl, bA⟩ := hrel
    have hol : (34 :: (l.take k).flatMap esc).length ≤ 6000001 := by
      have := escs_len (l.take k)
      rw [List.length_take] at this
      rw [List.length_cons]
      omega
    by_cases hlt : k < l.length
    · have hlt' : (k : Int) < (l.length : Int) := by omega
      have hix := idx hlt
      rw [nb_get hlt] at hix
      have htk : l.take (k + 1) = l.take k ++ [l[k]] := List.take_succ_eq_append_getElem hlt
      have hsl := fun wx => slM (l := l) (y := (k : Int)) (z := (k : Int) + 1) (i := k) (j := k + 1) rfl (by omega) (by omega) (by omega) wx
      have hdr : (l.drop k).take (k + 1 - k) = [l[k]] := by
        rw [List.drop_eq_getElem_cons hlt, show k + 1 - k = 1 by omega]
        rfl
      simp only [hdr] at hsl
      have hext : (txt l).extract k (k + 1) = txt [l[k]] := by rw [txt_extract, hdr]
      have hnext : 34 :: (l.take (k + 1)).flatMap esc = (34 :: (l.take k).flatMap esc) ++ esc l[k] := by rw [htk, List.flatMap_append]; simp
      have hsh := fun wx => short_any (w := wx) l[k]
      have hcl : (l[k]).toNat < 256 := (l[k]).toNat_lt
      have wk : IntKind.i64.wrap ((k : Int) + 1) = (k : Int) + 1 := by simp only [IntKind.wrap, IntKind.signed, IntKind.bits]; simp; omega
      obtain ⟨O, hO⟩ : ∃ O, 34 :: (l.take k).flatMap esc = O := ⟨_, rfl⟩
      rw [hO] at hol hnext ⊢
      generalize l[k] = c at *
      clear htk hdr hO
      cases hb : shortB c with
      | some x =>
        have hT : shortT c = [x] := by unfold shortT; rw [hb]
        have hE : esc c = [92, x] := by unfold esc; rw [hb]
        rw [hE] at hnext
        simp only [hT] at hsh
        have hne : ((txt [x]).toList == (⟨#[]⟩ : ByteArray).toList) = false := txt_ne (a := [x]) (b := []) (by simp)
        have hie : (txt [x]).toList.isEmpty = false := by unfold txt; rw [ByteArray.toList_mk]; rfl
        have hne' : ((txt [x]).toList != (⟨#[]⟩ : ByteArray).toList) = true := by rw [bne, hne]; rfl
        obtain ⟨T, hTe⟩ : ∃ T, O ++ [92] = T := ⟨_, rfl⟩
        have hTl := congrArg List.length hTe
        rw [List.length_append] at hTl
        simp only [List.length_cons, List.length_nil] at hTl
        obtain ⟨f1, g1⟩ := add_lit (a := O) (b := [92]) (s := ⟨#[92]⟩) rfl hTe (by omega) (by simp)
        have f1b : ¬ (9223372036854775807 < (txt O).size + 1) := by have := txt_size O; omega
        obtain ⟨f2, g2⟩ := add_lit (a := T) (b := [x]) (c := T ++ [x]) rfl rfl (by omega) (by simp)
        have f2b : ¬ (9223372036854775807 < (txt T).size + 1) := by have := txt_size T; omega
        have hfin : T ++ [x] = 34 :: (l.take (k + 1)).flatMap esc := by rw [hnext, ← hTe]; simp
        have HF := Lib.hid hfin
        generalize c.toNat = cn at *
        clear hb hT hE hnext hTe hfin hsl hext
        go_wp2_with fail
        refine (hsh _).mono ?_
        rintro e w1 ⟨rfl, rfl⟩
        go_wp2_with fail
        refine (hsh _).mono ?_
        rintro e w2 ⟨rfl, rfl⟩
        go_wp2_with fail
        go_roundw
        case rel => exact ⟨k + 1, by omega, by rw [← HF.out], by go_num, bA⟩
        case measure => simp [intOf]; omega
      | none =>
        have hT : shortT c = [] := by unfold shortT; rw [hb]
        simp only [hT] at hsh
        have hq : (txt []).toList = [] := by simp [txt]
        by_cases h32 : c.toNat < 32
        · have hE : esc c = [92, 117, 48, 48, hexD (c.toNat / 16), hexD (c.toNat % 16)] := by unfold esc; rw [hb]; dsimp only; rw [if_pos h32]
          rw [hE] at hnext
          have h32' : (c.toNat : Int) < 32 := by omega
          have hda := fun wx => digit_any (w := wx) (n := c.toNat / 16) (by omega)
          have hdb := fun wx => digit_any (w := wx) (n := c.toNat % 16) (by omega)
          obtain ⟨a, ha⟩ : ∃ a, c.toNat / 16 = a := ⟨_, rfl⟩
          obtain ⟨b, hbb⟩ : ∃ b, c.toNat % 16 = b := ⟨_, rfl⟩
          rw [ha, hbb] at hnext
          simp only [ha] at hda
          simp only [hbb] at hdb
          have hai : (c.toNat : Int) / 16 = (a : Int) := by omega
          have hbi : (c.toNat : Int).tmod 16 = (b : Int) := by rw [Int.tmod_eq_emod_of_nonneg (by omega)]; omega
          have wa : IntKind.i64.wrap (a : Int) = (a : Int) := by simp only [IntKind.wrap, IntKind.signed, IntKind.bits]; simp; omega
          have wb : IntKind.i64.wrap (b : Int) = (b : Int) := by simp only [IntKind.wrap, IntKind.signed, IntKind.bits]; simp; omega
          have wa8 : IntKind.u8.wrap (a : Int) = (a : Int) := by simp only [IntKind.wrap, IntKind.signed, IntKind.bits]; simp; omega
          have wb8 : IntKind.u8.wrap (b : Int) = (b : Int) := by simp only [IntKind.wrap, IntKind.signed, IntKind.bits]; simp; omega
          generalize hexD a = xa at *
          generalize hexD b = xb at *
          obtain ⟨T1, h1⟩ : ∃ T, O ++ [92, 117, 48, 48] = T := ⟨_, rfl⟩
          obtain ⟨T2, h2⟩ : ∃ T, T1 ++ [xa] = T := ⟨_, rfl⟩
          have n1 := congrArg List.length h1
          have n2 := congrArg List.length h2
          rw [List.length_append] at n1 n2
          simp only [List.length_cons, List.length_nil] at n1 n2
          have g1 := (add_lit (a := O) (b := [92, 117, 48, 48]) (s := ⟨#[92, 117, 48, 48]⟩) rfl h1 (by omega) (by simp)).2
          have g2 := add_txt T1 [xa]
          rw [h2] at g2
          have g3 := add_txt T2 [xb]
          have hfin : T2 ++ [xb] = 34 :: (l.take (k + 1)).flatMap esc := by rw [hnext, ← h2, ← h1]; simp
          have f1 : ¬ (9223372036854775807 < (txt O).size + 4) := by have := txt_size O; omega
          have f2 : ¬ (9223372036854775807 < (txt T1).size + (txt [xa]).size) := by have := txt_size T1; have := txt_size [xa]; simp at this; omega
          have f3 : ¬ (9223372036854775807 < (txt T2).size + (txt [xb]).size) := by have := txt_size T2; have := txt_size [xb]; simp at this; omega
          obtain ⟨N, hN⟩ : ∃ N, 34 :: (l.take (k + 1)).flatMap esc = N := ⟨_, rfl⟩
          have HN := Lib.hid hN
          rw [hfin, hN] at g3
          generalize c.toNat = cn at *
          clear hb hT hE hnext h1 h2 hfin ha hbb n1 n2 hsl hext hN
          go_wp2_with fail
          refine (hsh _).mono ?_
          rintro e w1 ⟨rfl, rfl⟩
          go_upto_region 8 with fail
          go_region_with (first
            | (go_at_call_of 23 (Value.int IntKind.i64 (a : Int)); refine (hda _).mono ?_; rintro e wx ⟨rfl, kx⟩; first | (have bx := bx.trans (kx.mono bx.size)) | (have bx := (below_drewN bA 1).trans (kx.mono bA.size)))
            | (go_at_call_of 23 (Value.int IntKind.i64 (b : Int)); refine (hdb _).mono ?_; rintro e wx ⟨rfl, kx⟩; first | (have bx := bx.trans (kx.mono bx.size)) | (have bx := (below_drewN bA 1).trans (kx.mono bA.size))))
          all_goals
            go_wp2_with fail
            go_roundw
            case rel => exact ⟨k + 1, by omega, by rw [HN.out], by go_num, bx⟩
            case measure => simp [intOf]; omega
        · have hE : esc c = [c] := by unfold esc; rw [hb]; dsimp only; rw [if_neg h32]
          rw [hE] at hnext
          have h32' : decide ((c.toNat : Int) < 32) = false := by simp; omega
          have g1 := add_txt O [c]
          obtain ⟨N, hN⟩ : ∃ N, 34 :: (l.take (k + 1)).flatMap esc = N := ⟨_, rfl⟩
          have HN := Lib.hid hN
          rw [← hnext, hN] at g1
          have f1 : ¬ (9223372036854775807 < (txt O).size + (txt [c]).size) := by have := txt_size O; have := txt_size [c]; simp at this; omega
          generalize c.toNat = cn at *
          clear hb hT hE hnext hN
          go_wp2_with fail
          refine (hsh _).mono ?_
          rintro e w1 ⟨rfl, rfl⟩
          go_wp2_with fail
          go_roundw
          case rel => exact ⟨k + 1, by omega, by rw [HN.out], by go_num, bA⟩
          case measure => simp [intOf]; omega
    · obtain rfl : k = l.length := by omega
      rw [List.take_length] at hol ⊢
      have hp : print l = (34 :: l.flatMap esc) ++ [34] := rfl
      obtain ⟨O, hO⟩ : ∃ O, 34 :: l.flatMap esc = O := ⟨_, rfl⟩
      rw [hO] at hol hp ⊢
      have g1 := (add_lit (a := O) (b := [34]) (s := ⟨#[34]⟩) rfl hp.symm (by omega) (by simp)).2
      have f1 : ¬ (9223372036854775807 < (txt O).size + 1) := by have := txt_size O; omega
      clear hp hO
      go_wp2_with fail
      go_ret
      exact ⟨rfl, bA⟩
end Go.Proofs.YtlgkidadpklkjaaDoor.Quo
