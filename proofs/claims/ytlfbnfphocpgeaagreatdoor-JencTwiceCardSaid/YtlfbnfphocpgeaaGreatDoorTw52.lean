/- JencTwice answers true for every input, and changes nothing that was there before the call: no condition, but that the package's own tables hold what the program's text lays in them. -/
import Derived.Test.YtlfbnfphocpgeaaGreatDoorTw43
import Derived.Test.YtlfbnfphocpgeaaGreatDoorTw51
import Derived.Test.YtlfbnfphocpgeaaGreatDoorTie
import Derived.Test.YtlfbnfphocpgeaaGreatDoorCards
import Derived.SevenTiedAt
import Derived.Stop.Joined
import Derived.Lay
namespace Go.Proofs.YtlfbnfphocpgeaaGreatDoor.Jdec
open Go.RowKit Kit Txt
open Utf (nb)
open Tre (Val HoldF HoldP)
def TellP {α : Type} (C : Value → α → Prop) (g : Got α) (e : Ending) : Prop :=
  ∃ (k0 : Int) (b0 b1 : Bool) (d : ByteArray) (x0 : Int) (t : ByteArray) (a1 : Option Addr) (n1 m1 : Nat) (a2 : Option Addr) (n2 m2 : Nat) (a p k : Int), e = .returned (.agg #[.int .i64 k0, .bool b0, .bool b1, .string d, .int .i64 x0, .string t, .slice a1 n1 m1, .slice a2 n2 m2, .int .i64 a, .int .i64 p, .int .i64 k]) ∧
    ((∃ x r, g = .ok x r ∧ k = 0 ∧ C (.agg #[.int .i64 k0, .bool b0, .bool b1, .string d, .int .i64 x0, .string t, .slice a1 n1 m1, .slice a2 n2 m2]) x) ∨ ((∃ r j, g = .no r j) ∧ k ≠ 0))
theorem TellP.good {α : Type} {C : Value → α → Prop} {g : Got α} {x : α} {r : List UInt8} (h : g = .ok x r) {k0 : Int} {b0 b1 : Bool} {d : ByteArray} {x0 : Int} {t : ByteArray} {a1 : Option Addr} {n1 m1 : Nat} {a2 : Option Addr} {n2 m2 : Nat} {a p : Int} (hC : C (.agg #[.int .i64 k0, .bool b0, .bool b1, .string d, .int .i64 x0, .string t, .slice a1 n1 m1, .slice a2 n2 m2]) x) :
    TellP C g (.returned (.agg #[.int .i64 k0, .bool b0, .bool b1, .string d, .int .i64 x0, .string t, .slice a1 n1 m1, .slice a2 n2 m2, .int .i64 a, .int .i64 p, .int .i64 0])) := ⟨_, _, _, _, _, _, _, _, _, _, _, _, _, _, _, rfl, .inl ⟨x, r, h, rfl, hC⟩⟩
theorem TellP.bad {α : Type} {C : Value → α → Prop} {j : Nat} {g : Got α} {r : List UInt8} (h : g = .no r j) {k : Int} (hk : k ≠ 0) (k0 : Int) (b0 b1 : Bool) (d : ByteArray) (x0 : Int) (t : ByteArray) (a1 : Option Addr) (n1 m1 : Nat) (a2 : Option Addr) (n2 m2 : Nat) (a p : Int) :
    TellP C g (.returned (.agg #[.int .i64 k0, .bool b0, .bool b1, .string d, .int .i64 x0, .string t, .slice a1 n1 m1, .slice a2 n2 m2, .int .i64 a, .int .i64 p, .int .i64 k])) := ⟨_, _, _, _, _, _, _, _, _, _, _, _, _, _, _, rfl, .inr ⟨⟨r, j, h⟩, hk⟩⟩
theorem parse_drop (l : List UInt8) : parse l = match value 64 (l.drop (skipAt l 0)) with
    | .no r e => .no r e
    | .ok v r => if skip r = [] then .ok v [] else .no (skip r) 14 := by
  unfold parse
  rw [skipAt_drop, List.drop_zero]
  rfl
theorem skip_past {l r : List UInt8} {n : Nat} (hr : r = l.drop n) (_hn : n ≤ l.length) : skip r = [] ↔ ¬ skipAt l n < l.length := by
  rw [hr, ← skipAt_drop, List.drop_eq_nil_iff]
  omega
set_option maxRecDepth 100000 in
set_option maxHeartbeats 2000000 in
theorem rparse_any {w : World} {l : List UInt8} (hl : l.length < 100000) :
    Calls Tryz.prog 9 #[.string (txt l)] w fun e w' => TellP (HoldF w.heap.size w') (parse l) e ∧ Below w.heap.size w w' := by
  have hs := txt_size l
  have hA := World.alloc_heap_new w (.cells #[.int .i64 0, .bool false, .bool false, .string ⟨#[]⟩, .int .i64 0, .string ⟨#[]⟩, .slice none 0 0, .slice none 0 0, .int .i64 0, .int .i64 0, .int .i64 0] 31)
  have bA : Below w.heap.size w (w.alloc (.cells #[.int .i64 0, .bool false, .bool false, .string ⟨#[]⟩, .int .i64 0, .string ⟨#[]⟩, .slice none 0 0, .slice none 0 0, .int .i64 0, .int .i64 0, .int .i64 0] 31)) := (Below.refl _ w).alloc (Nat.le_refl _) _
  have hlw : w.heap.size < (w.alloc (.cells #[.int .i64 0, .bool false, .bool false, .string ⟨#[]⟩, .int .i64 0, .string ⟨#[]⟩, .slice none 0 0, .slice none 0 0, .int .i64 0, .int .i64 0, .int .i64 0] 31)).heap.size := by simp
  have hb := fun (wx : World) (p : Nat) (x : Int) => rbad_any (w := wx) (p := p) (e := x)
  simp only [badV] at hb
  have hbl : ∀ (wx : World) (i : Nat), i ≤ l.length → Calls Tryz.prog 23 #[.string (txt l), .int .i64 i] wx fun e w' => e = .returned (.int .i64 (skipAt l i)) ∧ w' = wx := fun wx i hi => rblanks_any (w := wx) hl hi
  have hv := fun (wx : World) => valR_all hl 64 (Nat.le_refl _) wx (skipAt l 0) (skipAt_le l 0)
  have hvg := value_good 64 (l.drop (skipAt l 0))
  have hp := parse_drop l
  generalize value 64 (l.drop (skipAt l 0)) = gv at *
  generalize hq : skipAt l 0 = q at *
  obtain ⟨WA, hWA⟩ : ∃ WA, w.alloc (.cells #[.int .i64 0, .bool false, .bool false, .string ⟨#[]⟩, .int .i64 0, .string ⟨#[]⟩, .slice none 0 0, .slice none 0 0, .int .i64 0, .int .i64 0, .int .i64 0] 31) = WA := ⟨_, rfl⟩
  rw [hWA] at hA bA hlw
  have HWA := Lib.hid hWA
  have HBL0 := Lib.hid (fun wx => hbl wx 0 (Nat.zero_le _))
  have HBL := Lib.hid hbl
  have HV := Lib.hid hv
  have HB := Lib.hid hb
  have HP := Lib.hid hp
  have HVG := Lib.hid hvg
  have HQ := Lib.hid hq
  have HA := Lib.hid hA
  have HBA := Lib.hid bA
  clear hWA hbl hv hb hp hvg hq hA bA
  go_enter Tryz.func9, Tryz.ntmps9
  go_wp2_with fail
  refine (HBL0.out _).mono ?_
  rintro e wx ⟨rfl, rfl⟩
  rw [HWA.out, HQ.out]
  go_wp2_with fail
  refine (HV.out _).mono ?_
  rintro e w1 ⟨⟨k0, b0, b1, dd, x0, tt, a1, n1, m1, a2, n2, m2, aa, pp, kk, rfl, hcase⟩, k1⟩
  have hN := World.alloc_heap_new w1 (.cells #[.int .i64 k0, .bool b0, .bool b1, .string dd, .int .i64 x0, .string tt, .slice a1 n1 m1, .slice a2 n2 m2, .int .i64 aa, .int .i64 pp, .int .i64 kk] 31)
  obtain ⟨W1, hW1⟩ : ∃ W1, w1.alloc (.cells #[.int .i64 k0, .bool b0, .bool b1, .string dd, .int .i64 x0, .string tt, .slice a1 n1 m1, .slice a2 n2 m2, .int .i64 aa, .int .i64 pp, .int .i64 kk] 31) = W1 := ⟨_, rfl⟩
  have k11 : Below w1.heap.size w1 W1 := by rw [← hW1]; exact (Below.refl _ w1).alloc (Nat.le_refl _) _
  rw [hW1] at hN
  have hgot := ((k1.trans (k11.mono k1.size)).block _ (lt_of_heap HA.out)).trans HA.out
  have hbel := HBA.out.trans ((k1.trans (k11.mono k1.size)).mono HBA.out.size)
  have hneM : ¬ w1.heap.size = w.heap.size := by have := k1.size; omega
  have hneM' : ¬ w.heap.size = w1.heap.size := by have := k1.size; omega
  have HH := fun (u : Value) (x : Val) (h : HoldF WA.heap.size w1 u x) => Tre.HoldF.below h k11
  have HHH := Lib.hid HH
  have HW1 := Lib.hid hW1
  obtain ⟨u0, u1, u2, u3, u4, u5, u6, u7, u8, u9, u10⟩ := eleven hN
  have hlM := lt_of_heap hN
  have hlG := lt_of_heap hgot
  clear k1 k11 hW1 HH
  go_upto_region 2 with fail
  rw [HW1.out]
  clear HW1
  rcases hcase with ⟨x, r, hve, ha, rfl, hhold⟩ | ⟨⟨r, j, hve⟩, hkne⟩
  · have hH1 := HHH.out _ _ hhold
    have hg := HVG.out
    rw [hve] at hg
    have hg1 : r <:+ l := (hg.1).trans (List.drop_suffix _ _)
    have hrl : r.length ≤ l.length := hg1.length_le
    have hrd : r = l.drop (l.length - r.length) := List.suffix_iff_eq_drop.1 hg1
    have hse := skip_past hrd (by omega)
    have hpp := HP.out
    rw [hve] at hpp
    dsimp only at hpp
    generalize hn : l.length - r.length = n at *
    have hnl : n ≤ l.length := by omega
    subst ha
    have hH1' := Lib.hid hH1
    clear hve hH1 hhold hg hg1 hrd hrl hn
    by_cases hsk : skipAt l n < l.length
    · have hdl : decide ((skipAt l n : Int) < (l.length : Int)) = true := decide_eq_true (by omega)
      have hdl2 : (skipAt l n : Int) < (l.length : Int) := by omega
      rw [if_neg (fun e => hse.1 e hsk)] at hpp
      have HPP := Lib.hid hpp
      clear hse hpp
      have HBN := Lib.hid (fun wx => HBL.out wx n hnl)
      generalize skipAt l n = sn at *
      go_wp2_with fail
      refine (HBN.out _).mono ?_
      rintro e wx ⟨rfl, rfl⟩
      go_wp2_with fail
      refine (HB.out _ _ 14).mono ?_
      rintro e w2 ⟨rfl, k2⟩
      have hgot2 := (k2.block _ (lt_of_heap hgot)).trans hgot
      have hbel2 := hbel.trans (k2.mono hbel.size)
      clear k2 u0 u1 u2 u3 u4 u5 u6 u7 u8 u9 u10
      have h9 := set11 hgot2 (.int .i64 0) (.bool false) (.bool false) (.string ⟨#[]⟩) (.int .i64 0) (.string ⟨#[]⟩) (.slice none 0 0) (.slice none 0 0) (.int .i64 0) (.int .i64 sn) (.int .i64 14)
      have b9 := below11 hbel2 (Nat.le_refl _) (.int .i64 0) (.bool false) (.bool false) (.string ⟨#[]⟩) (.int .i64 0) (.string ⟨#[]⟩) (.slice none 0 0) (.slice none 0 0) (.int .i64 0) (.int .i64 sn) (.int .i64 14)
      obtain ⟨z0, z1, z2, z3, z4, z5, z6, z7, z8, z9, z10⟩ := eleven h9
      obtain ⟨y0, y1, y2, y3, y4, y5, y6, y7, y8, y9, y10⟩ := eleven hgot2
      have qf := free_of hgot2
      have HB9 := Lib.hid b9
      clear h9 b9
      go_wp2_with fail
      refine bodyPost_ret (v := .agg #[.int .i64 0, .bool false, .bool false, .string ⟨#[]⟩, .int .i64 0, .string ⟨#[]⟩, .slice none 0 0, .slice none 0 0, .int .i64 0, .int .i64 sn, .int .i64 14]) (by simp [results, Tryz.results9, go_sem, z0, z1, z2, z3, z4, z5, z6, z7, z8, z9, z10]) rfl ⟨TellP.bad HPP.out (by decide) _ _ _ _ _ _ _ _ _ _ _ _ _ _, HB9.out⟩
    · have hdl : decide ((skipAt l n : Int) < (l.length : Int)) = false := decide_eq_false (by omega)
      have hdl2 : ¬ (skipAt l n : Int) < (l.length : Int) := by omega
      rw [if_pos (hse.2 hsk)] at hpp
      have HPP := Lib.hid hpp
      clear hse hpp
      have HBN := Lib.hid (fun wx => HBL.out wx n hnl)
      generalize skipAt l n = sn at *
      have HS := Lib.hid (holdF_set11 hH1'.out hlw (show w.heap.size ≤ WA.heap.size by omega) (.int .i64 k0) (.bool b0) (.bool b1) (.string dd) (.int .i64 x0) (.string tt) (.slice a1 n1 m1) (.slice a2 n2 m2) (.int .i64 0) (.int .i64 (-1)) (.int .i64 0))
      go_wp2_with fail
      refine (HBN.out _).mono ?_
      rintro e wx ⟨rfl, rfl⟩
      have h9 := set11 hgot (.int .i64 k0) (.bool b0) (.bool b1) (.string dd) (.int .i64 x0) (.string tt) (.slice a1 n1 m1) (.slice a2 n2 m2) (.int .i64 0) (.int .i64 (-1)) (.int .i64 0)
      have b9 := below11 hbel (Nat.le_refl _) (.int .i64 k0) (.bool b0) (.bool b1) (.string dd) (.int .i64 x0) (.string tt) (.slice a1 n1 m1) (.slice a2 n2 m2) (.int .i64 0) (.int .i64 (-1)) (.int .i64 0)
      obtain ⟨z0, z1, z2, z3, z4, z5, z6, z7, z8, z9, z10⟩ := eleven h9
      obtain ⟨y0, y1, y2, y3, y4, y5, y6, y7, y8, y9, y10⟩ := eleven hgot
      have qf := free_of hgot
      have HB9 := Lib.hid b9
      clear h9 b9
      go_wp2_with fail
      refine bodyPost_ret (v := .agg #[.int .i64 k0, .bool b0, .bool b1, .string dd, .int .i64 x0, .string tt, .slice a1 n1 m1, .slice a2 n2 m2, .int .i64 0, .int .i64 (-1), .int .i64 0]) (by simp [results, Tryz.results9, go_sem, z0, z1, z2, z3, z4, z5, z6, z7, z8, z9, z10]) rfl ⟨TellP.good HPP.out HS.out, HB9.out⟩
  · have hpp := HP.out
    rw [hve] at hpp
    have hpp : parse l = .no r j := hpp
    have HPP := Lib.hid hpp
    have hkb : (kk == 0) = false := by simpa using hkne
    have hkb2 : (kk != 0) = true := by simpa using hkne
    have HK := Lib.hid hkne
    clear hpp hve hkne

    have h9 := set11 hgot (.int .i64 k0) (.bool b0) (.bool b1) (.string dd) (.int .i64 x0) (.string tt) (.slice a1 n1 m1) (.slice a2 n2 m2) (.int .i64 aa) (.int .i64 pp) (.int .i64 kk)
    have b9 := below11 hbel (Nat.le_refl _) (.int .i64 k0) (.bool b0) (.bool b1) (.string dd) (.int .i64 x0) (.string tt) (.slice a1 n1 m1) (.slice a2 n2 m2) (.int .i64 aa) (.int .i64 pp) (.int .i64 kk)
    obtain ⟨z0, z1, z2, z3, z4, z5, z6, z7, z8, z9, z10⟩ := eleven h9
    obtain ⟨y0, y1, y2, y3, y4, y5, y6, y7, y8, y9, y10⟩ := eleven hgot
    have qf := free_of hgot
    have HB9 := Lib.hid b9
    clear h9 b9
    go_wp2_with fail
    refine bodyPost_ret (v := .agg #[.int .i64 k0, .bool b0, .bool b1, .string dd, .int .i64 x0, .string tt, .slice a1 n1 m1, .slice a2 n2 m2, .int .i64 aa, .int .i64 pp, .int .i64 kk]) (by simp [results, Tryz.results9, go_sem, z0, z1, z2, z3, z4, z5, z6, z7, z8, z9, z10]) rfl ⟨TellP.bad rfl HK.out _ _ _ _ _ _ _ _ _ _ _ _ _ _, HB9.out⟩
end Go.Proofs.YtlfbnfphocpgeaaGreatDoor.Jdec
namespace Go.Proofs.YtlfbnfphocpgeaaGreatDoor.Jenc
open Go.RowKit Kit Txt
open Tre (Val Whole HoldV HoldF Hold Holds Fine Mild count sort zeroV)
open Jdec (parse parse_good Ok eight eleven rparse_any TellP same_true)
structure All (w : World) : Prop where
  ok : Ok w
  pow : Num.Pow w
theorem All.below {w w' : World} (h : All w) (k : Below w.heap.size w w') : All w' := ⟨h.ok.below k, h.pow.below k⟩
theorem is_canon {v : Val} (hr : Tre.Right v) : isB (prt false 0 (sort v)) = true := by
  unfold isB
  rw [parse_print (Tre.sort_right hr) 0]
  dsimp only
  rw [Tre.sort_sort v hr.2]
  exact decide_eq_true rfl
set_option maxRecDepth 100000 in
set_option maxHeartbeats 8000000 in
theorem twice_law {w : World} (ho : All w) (s : List UInt8) : Calls Tryz.prog 5 #[.string (txt s)] w fun e w' => e = .returned (.bool true) ∧ Below w.heap.size w w' := by
  have hw := Lib.hid (wakes_any ho.ok.utf ho.pow)
  have hz := txt_size s
  by_cases g1 : 1500 < s.length
  · have d1 : decide ((1500 : Int) < (s.length : Int)) = true := decide_eq_true (by omega)
    have d2 : (1500 : Int) < (s.length : Int) := by omega
    go_enter Tryz.func5, Tryz.ntmps5
    go_wp2_with fail
    refine hw.out.mono ?_
    rintro e w1 ⟨rfl, k1⟩
    go_wp2_with fail
    go_ret
    exact ⟨rfl, k1⟩
  have d1 : decide ((1500 : Int) < (s.length : Int)) = false := decide_eq_false (by omega)
  have d2 : ¬ (1500 : Int) < (s.length : Int) := by omega
  have HO := Lib.hid ho
  have HR := Lib.hid (fun (wx : World) => rparse_any (w := wx) (l := s) (by omega))
  have HV := Lib.hid (fun (wx : World) (h : Below w.heap.size w wx) => jvalue_any (w := wx) (s := s) (by omega) (ho.below h).ok)
  have hgd := parse_good s
  cases hp : parse s with
  | no r j =>
    rw [hp] at hgd
    have hj : j ≠ 0 := hgd.2
    have hj2 : (((j : Nat) : Int) != 0) = true := by simpa using hj
    have HPP := Lib.hid hp
    clear hp hgd hj
    go_enter Tryz.func5, Tryz.ntmps5
    go_wp2_with fail
    refine hw.out.mono ?_
    rintro e w1 ⟨rfl, k1⟩
    have HB1 := Lib.hid k1
    clear k1
    go_wp2_with fail
    refine (HR.out _).mono ?_
    rintro e w2 ⟨⟨k0, b0, b1, dd, x0, tt, a1, n1, m1, a2, n2, m2, aa, pp, kk, rfl, hcase⟩, k2⟩
    have hkk : kk ≠ 0 := by
      rcases hcase with ⟨v', r', hve, -⟩ | ⟨-, hkne⟩
      · rw [HPP.out] at hve; cases hve
      · exact hkne
    have hkk2 : (kk != 0) = true := by simpa using hkk
    have hN := World.alloc_heap_new w2 (.cells #[.int .i64 k0, .bool b0, .bool b1, .string dd, .int .i64 x0, .string tt, .slice a1 n1 m1, .slice a2 n2 m2, .int .i64 aa, .int .i64 pp, .int .i64 kk] 31)
    have b2 := (HB1.out.trans (k2.mono HB1.out.size)).alloc (Nat.le_trans HB1.out.size k2.size) (.cells #[.int .i64 k0, .bool b0, .bool b1, .string dd, .int .i64 x0, .string tt, .slice a1 n1 m1, .slice a2 n2 m2, .int .i64 aa, .int .i64 pp, .int .i64 kk] 31)
    obtain ⟨W2, hW2⟩ : ∃ W2, w2.alloc (.cells #[.int .i64 k0, .bool b0, .bool b1, .string dd, .int .i64 x0, .string tt, .slice a1 n1 m1, .slice a2 n2 m2, .int .i64 aa, .int .i64 pp, .int .i64 kk] 31) = W2 := ⟨_, rfl⟩
    rw [hW2] at hN b2
    have HV2 := Lib.hid (HV.out _ b2)
    have HW2 := Lib.hid hW2
    have HN := Lib.hid hN
    have HB2 := Lib.hid b2
    clear hcase k2 hN b2 hW2 hkk
    go_wp2_with fail
    rw [HW2.out]
    refine HV2.out.mono ?_
    rintro e w3 hT
    obtain ⟨rfl, k3⟩ := ValueTold.bad HPP.out hT
    have hN3 := (k3.block _ (lt_of_heap HN.out)).trans HN.out
    have hlt3 := lt_of_heap hN3
    obtain ⟨u0, u1, u2, u3, u4, u5, u6, u7, u8, u9, u10⟩ := eleven hN3
    have b3 := (HB2.out.trans (k3.mono HB2.out.size)).alloc (Nat.le_trans HB2.out.size k3.size) (.cells #[.int .i64 0, .bool false, .bool false, .string ⟨#[]⟩, .int .i64 0, .string ⟨#[]⟩, .slice none 0 0, .slice none 0 0] 29)
    unfold zeroV
    clear hT k3 hN3
    go_wp2_with fail
    go_ret
    exact ⟨rfl, b3⟩
  | ok v r =>
    obtain ⟨hr, hm, hcn, hpl, hcl⟩ := Jdec.parse_mild (by omega) hp
    have HS := Lib.hid fun (wx : World) (u1 u2 : Value) (h1 : HoldV wx u1 v) (h2 : HoldV wx u2 v) => same_true h1 h2 rfl
    have HP := Lib.hid fun (wx : World) (hb : Below w.heap.size w wx) (u : Value) (h : HoldV wx u v) => print_any hr hm hcn h (ho.below hb).ok.utf (ho.below hb).pow
    have HC := Lib.hid fun (wx : World) (hb : Below w.heap.size w wx) (u : Value) (h : HoldV wx u v) => canon_any hr hm hcn h (ho.below hb).ok.utf (ho.below hb).pow
    have hpp : parse (prt false 0 v) = .ok v [] := parse_print hr 0
    have hpc : parse (prt false 0 (sort v)) = .ok (sort v) [] := parse_print (Tre.sort_right hr) 0
    have HV5 := Lib.hid fun (wx : World) (hb : Below w.heap.size w wx) => jvalue_any (w := wx) (s := prt false 0 v) (by omega) (ho.below hb).ok
    have HI := Lib.hid fun (wx : World) (hb : Below w.heap.size w wx) => jis_any (w := wx) (s := prt false 0 (sort v)) (by omega) (ho.below hb).ok (ho.below hb).pow (fun v' r' h => by
      rw [hpc] at h
      injection h with h1 h2
      rw [← h1, Tre.sort_count v hr.2]
      exact ⟨hm.imp fun d hd => Tre.sort_fine v d hr.2 hd, hcn⟩)
    have hic := is_canon hr
    rw [hic] at HI
    generalize prt false 0 v = pv at *
    generalize prt false 0 (sort v) = cv at *
    have HPP := Lib.hid hp
    have HPV := Lib.hid hpp
    clear hp hgd hr hm hcn hpl hcl hpp hpc hic
    go_enter Tryz.func5, Tryz.ntmps5
    go_wp2_with fail
    refine hw.out.mono ?_
    rintro e w1 ⟨rfl, k1⟩
    have HB1 := Lib.hid k1
    clear k1
    go_wp2_with fail
    refine (HR.out _).mono ?_
    rintro e w2 ⟨⟨k0, b0, b1, dd, x0, tt, a1, n1, m1, a2, n2, m2, aa, pp, kk, rfl, hcase⟩, k2⟩
    have hkk : kk = 0 := by
      rcases hcase with ⟨v', r', hve, h, -⟩ | ⟨⟨r', j', hve⟩, -⟩
      · exact h
      · rw [HPP.out] at hve; cases hve
    subst hkk
    have hN := World.alloc_heap_new w2 (.cells #[.int .i64 k0, .bool b0, .bool b1, .string dd, .int .i64 x0, .string tt, .slice a1 n1 m1, .slice a2 n2 m2, .int .i64 aa, .int .i64 pp, .int .i64 0] 31)
    have b2 := (HB1.out.trans (k2.mono HB1.out.size)).alloc (Nat.le_trans HB1.out.size k2.size) (.cells #[.int .i64 k0, .bool b0, .bool b1, .string dd, .int .i64 x0, .string tt, .slice a1 n1 m1, .slice a2 n2 m2, .int .i64 aa, .int .i64 pp, .int .i64 0] 31)
    obtain ⟨W2, hW2⟩ : ∃ W2, w2.alloc (.cells #[.int .i64 k0, .bool b0, .bool b1, .string dd, .int .i64 x0, .string tt, .slice a1 n1 m1, .slice a2 n2 m2, .int .i64 aa, .int .i64 pp, .int .i64 0] 31) = W2 := ⟨_, rfl⟩
    rw [hW2] at hN b2
    have HV2 := Lib.hid (HV.out _ b2)
    have HW2 := Lib.hid hW2
    have HN := Lib.hid hN
    have HB2 := Lib.hid b2
    clear hcase k2 hN b2 hW2
    go_wp2_with fail
    rw [HW2.out]
    refine HV2.out.mono ?_
    rintro e w3 hT
    obtain ⟨⟨vpk, vak, vck, vcc, rfl, hh⟩, k3⟩ := ValueTold.good HPP.out hT
    generalize v.keys.length = vlk at *
    generalize v.kids.length = vlv at *
    generalize v.kind = vk at *
    generalize v.is = vb at *
    generalize v.num = vn at *
    generalize v.str = vt at *
    have hN3 := (k3.block _ (lt_of_heap HN.out)).trans HN.out
    have hlt3 := lt_of_heap hN3
    have hM := World.alloc_heap_new w3 (.cells #[.int .i64 vk, .bool vb, .bool vn.neg, .string (txt vn.dig), .int .i64 vn.exp, .string (txt vt), .slice vpk vlk vck, .slice vak vlv vcc] 29)
    have kA : Below w3.heap.size w3 (w3.alloc (.cells #[.int .i64 vk, .bool vb, .bool vn.neg, .string (txt vn.dig), .int .i64 vn.exp, .string (txt vt), .slice vpk vlk vck, .slice vak vlv vcc] 29)) := (Below.refl _ w3).alloc (Nat.le_refl _) _
    have b3 := (HB2.out.trans (k3.mono HB2.out.size)).trans (kA.mono (Nat.le_trans HB2.out.size k3.size))
    obtain ⟨W3, hW3⟩ : ∃ W3, w3.alloc (.cells #[.int .i64 vk, .bool vb, .bool vn.neg, .string (txt vn.dig), .int .i64 vn.exp, .string (txt vt), .slice vpk vlk vck, .slice vak vlv vcc] 29) = W3 := ⟨_, rfl⟩
    rw [hW3] at hM b3 kA
    have hN4 := (kA.block _ hlt3).trans hN3
    have hv3 := hh.below kA
    obtain ⟨u0, u1, u2, u3, u4, u5, u6, u7, u8, u9, u10⟩ := eleven hN4
    obtain ⟨c0, c1, c2, c3, c4, c5, c6, c7⟩ := eight hM
    have hlM := lt_of_heap hM
    have hne : ¬ w3.heap.size = w2.heap.size := by omega
    have HPC := Lib.hid (HP.out _ b3 _ hv3)
    have HW3 := Lib.hid hW3
    have HM3 := Lib.hid hM
    have HB3 := Lib.hid b3
    have HV3 := Lib.hid hv3
    clear hT k3 hN3 hN4 hM kA b3 hW3 hh hv3
    go_upto_region 7 with fail
    rw [HW3.out]
    go_wp2_with fail
    refine HPC.out.mono ?_
    rintro e w4 ⟨rfl, k4⟩
    have b4 := HB3.out.trans (k4.mono HB3.out.size)
    have HM4 := Lib.hid ((k4.block _ (lt_of_heap HM3.out)).trans HM3.out)
    have HV4 := Lib.hid (HV3.out.below k4)
    have HV54 := Lib.hid (HV5.out _ b4)
    have HB4 := Lib.hid b4
    clear k4 b4 u0 u1 u2 u3 u4 u5 u6 u7 u8 u9 u10 c0 c1 c2 c3 c4 c5 c6 c7 hlM hne hlt3
    go_wp2_with fail
    refine HV54.out.mono ?_
    rintro e w5 hT
    obtain ⟨⟨upk, uak, uck, ucc, rfl, hh⟩, k5⟩ := ValueTold.good HPV.out hT
    generalize v.keys.length = ulk at *
    generalize v.kids.length = ulv at *
    generalize v.kind = uk at *
    generalize v.is = ub at *
    generalize v.num = un at *
    generalize v.str = ut at *
    have hM5 := (k5.block _ (lt_of_heap HM4.out)).trans HM4.out
    have hlt5 := lt_of_heap hM5
    have hU := World.alloc_heap_new w5 (.cells #[.int .i64 uk, .bool ub, .bool un.neg, .string (txt un.dig), .int .i64 un.exp, .string (txt ut), .slice upk ulk uck, .slice uak ulv ucc] 29)
    have kA : Below w5.heap.size w5 (w5.alloc (.cells #[.int .i64 uk, .bool ub, .bool un.neg, .string (txt un.dig), .int .i64 un.exp, .string (txt ut), .slice upk ulk uck, .slice uak ulv ucc] 29)) := (Below.refl _ w5).alloc (Nat.le_refl _) _
    have b5 := (HB4.out.trans (k5.mono HB4.out.size)).trans (kA.mono (Nat.le_trans HB4.out.size k5.size))
    obtain ⟨W5, hW5⟩ : ∃ W5, w5.alloc (.cells #[.int .i64 uk, .bool ub, .bool un.neg, .string (txt un.dig), .int .i64 un.exp, .string (txt ut), .slice upk ulk uck, .slice uak ulv ucc] 29) = W5 := ⟨_, rfl⟩
    rw [hW5] at hU b5 kA
    have hM6 := (kA.block _ hlt5).trans hM5
    have hv5 := (HV4.out.below k5).below kA
    have hu5 := hh.below kA
    obtain ⟨c0, c1, c2, c3, c4, c5, c6, c7⟩ := eight hM6
    have hlU := lt_of_heap hU
    have HCC := Lib.hid (HC.out _ b5 _ hv5)
    have HW5 := Lib.hid hW5
    have HM5 := Lib.hid hM6
    have HU5 := Lib.hid hU
    have HB5 := Lib.hid b5
    have HVV := Lib.hid hv5
    have HUU := Lib.hid hu5
    clear hT k5 hM5 hM6 kA b5 hW5 hh hv5 hu5 hU
    go_upto_region 11 with fail
    rw [HW5.out]
    go_wp2_with fail
    refine HCC.out.mono ?_
    rintro e w6 ⟨rfl, k6⟩
    have b6 := HB5.out.trans (k6.mono HB5.out.size)
    have hM6 := (k6.block _ (lt_of_heap HM5.out)).trans HM5.out
    have hU6 := (k6.block _ (lt_of_heap HU5.out)).trans HU5.out
    have HSS := Lib.hid (HS.out _ _ _ (HVV.out.below k6) (HUU.out.below k6))
    have HB6 := Lib.hid b6
    clear c0 c1 c2 c3 c4 c5 c6 c7 k6 b6
    obtain ⟨c0, c1, c2, c3, c4, c5, c6, c7⟩ := eight hM6
    obtain ⟨e0, e1, e2, e3, e4, e5, e6, e7⟩ := eight hU6
    have hl6 := lt_of_heap hM6
    have hl7 := lt_of_heap hU6
    clear hM6 hU6 hlU hlt5
    go_wp2_with fail
    refine HSS.out.mono ?_
    rintro e w7 ⟨rfl, k7⟩
    have b7 := HB6.out.trans (k7.mono HB6.out.size)
    have HII := Lib.hid (HI.out _ b7)
    have HB7 := Lib.hid b7
    clear c0 c1 c2 c3 c4 c5 c6 c7 e0 e1 e2 e3 e4 e5 e6 e7 k7 b7 hl6 hl7
    go_wp2_with fail
    refine HII.out.mono ?_
    rintro e w8 ⟨rfl, k8⟩
    have b8 := HB7.out.trans (k8.mono HB7.out.size)
    clear k8
    go_wp2_with fail
    go_ret
    exact ⟨rfl, b8⟩
theorem twice_text {w : World} {s : ByteArray} (ho : All w) : Calls Tryz.prog 5 #[.string s] w fun e w' => e = .returned (.bool true) ∧ Below w.heap.size w w' := by
  have := twice_law ho s.data.toList
  rwa [← txt_data] at this
end Go.Proofs.YtlfbnfphocpgeaaGreatDoor.Jenc
namespace Go.Proofs.YtlfbnfphocpgeaaGreatDoor.Num
open Go.RowKit Kit
def Ok (w : World) : Prop := Tab w ∧ Pow w
theorem Ok.below {w w' : World} (h : Ok w) (k : Below w.heap.size w w') : Ok w' := ⟨h.1.below k, h.2.below k⟩
end Go.Proofs.YtlfbnfphocpgeaaGreatDoor.Num
namespace Go.Proofs.YtlfbnfphocpgeaaGreatDoor.Num
open Go.ChangeShapes Go.WideShapes Go.ChangeAt Go.RowKit Kit
theorem gNext : Tryz.prog.globalNamed "tabularium/num.next" = some 0 := by kernel_rfl
theorem tNext : (Tryz.prog.globals[0]?).map (·.type) = some 129 := by kernel_rfl
theorem plainNext : plainT Tryz.prog 5 129 = true := by kernel_rfl
theorem readsNext (W : World) : DataW.trod (fun _ => ()) Tryz.prog W 0 (fun _ => true) false 5 129 tcells.toList = some (Rows.laid_tabularium_num_next, []) := by kernel_rfl
def pcells : Array Value := (Lib.pow10Tab.map fun z => Value.int .u64 z).toArray
theorem gPow : Tryz.prog.globalNamed "internal/strconv.uint64pow10" = some 4 := by kernel_rfl
theorem tPow : (Tryz.prog.globals[4]?).map (·.type) = some 225 := by kernel_rfl
theorem plainPow : plainT Tryz.prog 5 225 = true := by kernel_rfl
theorem readsPow (W : World) : DataW.trod (fun _ => ()) Tryz.prog W 0 (fun _ => true) false 5 225 pcells.toList = some (Rows.laid_internal_strconv_uint64pow10, []) := by kernel_rfl
theorem listed {P : Program} {w : World} : ∀ {l : List (String × DataW Unit)} {ps : List MemPlace}, DataW.LaidVars P w l ps → ∀ {n : String} {d : DataW Unit}, (n, d) ∈ l →
    ∃ g t cs f p, P.globalNamed n = some g ∧ (P.globals[g]?).map (·.type) = some t ∧ w.var? P n = some cs ∧ DataW.trod (fun _ => ()) P w 0 (fun _ => true) false f t cs.toList = some (d, p)
  | [], _, _, _, _, hm => by cases hm
  | (n', d') :: r, ps, h, n, d, hm => by
    obtain ⟨g, t, cs, fuel, p, q, h1, h2, h3, h4, h5, _⟩ := h
    rcases List.mem_cons.1 hm with e | e
    · cases e
      exact ⟨g, t, cs, fuel, p, h1, h2, h3, h4⟩
    · exact listed h5 e
theorem laid_ok {W : World} {laid : List (String × DataW Unit)} (h : laidMetH Tryz.prog laid W) (hp : (laid.all fun x => x.2.handleName?.isNone) = true)
    (h1 : ("tabularium/num.next", Rows.laid_tabularium_num_next) ∈ laid) (h2 : ("internal/strconv.uint64pow10", Rows.laid_internal_strconv_uint64pow10) ∈ laid) : Ok W := by
  rw [MakeChecks.laidMetH_plain _ _ _ hp] at h
  obtain ⟨ps, hv, _⟩ := h
  constructor
  · obtain ⟨g, t, cs, f, p, hg, ht, hvr, hd⟩ := listed hv h1
    obtain rfl := Option.some.inj (gNext.symm.trans hg)
    obtain rfl := Option.some.inj (tNext.symm.trans ht)
    have e := trod_inj 5 129 _ _ _ _ _ _ _ plainNext hd (readsNext W)
    unfold World.var? at hvr
    rw [gNext] at hvr
    simp only [Option.bind_some] at hvr
    split at hvr
    · rename_i c ty fr hh
      have : c = cs := Option.some.inj hvr
      subst this
      have : c = tcells := by
        rw [← Array.toArray_toList (xs := c), e]
      subst this
      exact ⟨_, _, hh⟩
    · cases hvr
  · obtain ⟨g, t, cs, f, p, hg, ht, hvr, hd⟩ := listed hv h2
    obtain rfl := Option.some.inj (gPow.symm.trans hg)
    obtain rfl := Option.some.inj (tPow.symm.trans ht)
    have e := trod_inj 5 225 _ _ _ _ _ _ _ plainPow hd (readsPow W)
    show W.var? Tryz.prog "internal/strconv.uint64pow10" = some (Lib.pow10Tab.map fun z => Value.int .u64 z).toArray
    rw [hvr, ← Array.toArray_toList (xs := cs), e]
    rfl
end Go.Proofs.YtlfbnfphocpgeaaGreatDoor.Num
namespace Go.Proofs.YtlfbnfphocpgeaaGreatDoor.Jenc
open Go.ChangeShapes Go.WideShapes Go.ChangeAt Go.RowKit Kit
theorem laid_both {W : World} {laid : List (String × DataW Unit)} (h : laidMetH Tryz.prog laid W) (hp : (laid.all fun x => x.2.handleName?.isNone) = true)
    (h1 : ("tabularium/utf.kinds", Rows.laid_tabularium_utf_kinds) ∈ laid) (h2 : ("internal/strconv.uint64pow10", Rows.laid_internal_strconv_uint64pow10) ∈ laid) : Utf.Laid W ∧ Num.Pow W := by
  rw [MakeChecks.laidMetH_plain _ _ _ hp] at h
  obtain ⟨ps, hv, _⟩ := h
  constructor
  · obtain ⟨g, t, cs, f, p, hg, ht, hvr, hd⟩ := Num.listed hv h1
    obtain rfl := Option.some.inj (Utf.gKinds.symm.trans hg)
    obtain rfl := Option.some.inj (Utf.tKinds.symm.trans ht)
    have e := trod_inj 5 227 _ _ _ _ _ _ _ Utf.plainKinds hd (Utf.readsKinds W)
    unfold World.var? at hvr
    rw [Utf.gKinds] at hvr
    simp only [Option.bind_some] at hvr
    split at hvr
    · rename_i c ty fr hh
      have : c = cs := Option.some.inj hvr
      subst this
      have : c = Utf.kcells := by
        rw [← Array.toArray_toList (xs := c), e]
      subst this
      exact ⟨_, _, hh⟩
    · cases hvr
  · obtain ⟨g, t, cs, f, p, hg, ht, hvr, hd⟩ := Num.listed hv h2
    obtain rfl := Option.some.inj (Num.gPow.symm.trans hg)
    obtain rfl := Option.some.inj (Num.tPow.symm.trans ht)
    have e := trod_inj 5 225 _ _ _ _ _ _ _ Num.plainPow hd (Num.readsPow W)
    show W.var? Tryz.prog "internal/strconv.uint64pow10" = some (Lib.pow10Tab.map fun z => Value.int .u64 z).toArray
    rw [hvr, ← Array.toArray_toList (xs := cs), e]
    rfl
end Go.Proofs.YtlfbnfphocpgeaaGreatDoor.Jenc
namespace Go.Proofs.YtlfbnfphocpgeaaGreatDoor.Jenc
open Go.ChangeShapes Go.WideShapes Go.ChangeAt Go.RowKit Kit
theorem laid_all {W : World} {laid : List (String × DataW Unit)} (h : laidMetH Tryz.prog laid W) (hp : (laid.all fun x => x.2.handleName?.isNone) = true)
    (h1 : ("tabularium/utf.kinds", Rows.laid_tabularium_utf_kinds) ∈ laid) (h2 : ("internal/strconv.uint64pow10", Rows.laid_internal_strconv_uint64pow10) ∈ laid) (h3 : ("tabularium/num.next", Rows.laid_tabularium_num_next) ∈ laid) : All W :=
  ⟨Jdec.laid_ok h hp h3 h1, (laid_both h hp h1 h2).2⟩
end Go.Proofs.YtlfbnfphocpgeaaGreatDoor.Jenc
namespace Go.Proofs.YtlfbnfphocpgeaaGreatDoor.Jenc
open Go.ChangeShapes Go.WideShapes Go.ChangeAt Go.ChangeMaps Go.RowKit Kit
set_option maxRecDepth 100000 in
theorem twice_lifted (os : Os) (started : os.Started) (H : Type) (enc : TypeId × Value → H) :
    ReturnsInHanded {} Tryz.checked os 5 .any (fun w args => (Rows.jencTwiceSpec.pre enc Tryz.prog Tryz.f5 [] false w args ∧ laidMetH Tryz.prog [("math/bits.deBruijn32tab", Rows.laid_math_bits_deBruijn32tab), ("math/bits.deBruijn64tab", Rows.laid_math_bits_deBruijn64tab), ("internal/strconv.uint64pow10", Rows.laid_internal_strconv_uint64pow10), ("unicode/utf8.acceptRanges", Rows.laid_unicode_utf8_acceptRanges), ("tabularium/utf.kinds", Rows.laid_tabularium_utf_kinds), ("tabularium/num.next", Rows.laid_tabularium_num_next), ("unicode/utf8.first", Rows.laid_unicode_utf8_first)] w) ∧ sizedMet enc Tryz.prog Tryz.f5 (OpenSpec.ofChange Rows.jencTwiceSpec) false w args)
      (Rows.jencTwiceSpec.post enc Tryz.prog Tryz.f5 false true false false) := by
  refine returnsInHanded_of_change_and (C := Tryz.checked) (X := fun w _ => laidMetH Tryz.prog [("math/bits.deBruijn32tab", Rows.laid_math_bits_deBruijn32tab), ("math/bits.deBruijn64tab", Rows.laid_math_bits_deBruijn64tab), ("internal/strconv.uint64pow10", Rows.laid_internal_strconv_uint64pow10), ("unicode/utf8.acceptRanges", Rows.laid_unicode_utf8_acceptRanges), ("tabularium/utf.kinds", Rows.laid_tabularium_utf_kinds), ("tabularium/num.next", Rows.laid_tabularium_num_next), ("unicode/utf8.first", Rows.laid_unicode_utf8_first)] w) (fun _ _ _ hh h => h.of_heap hh) own started (by kernel_rfl) Tryz.func5
    (ChangeSpec.witness_shaped (enc := enc) (C := Tryz.checked) (os := os) (X := fun w _ => laidMetH Tryz.prog [("math/bits.deBruijn32tab", Rows.laid_math_bits_deBruijn32tab), ("math/bits.deBruijn64tab", Rows.laid_math_bits_deBruijn64tab), ("internal/strconv.uint64pow10", Rows.laid_internal_strconv_uint64pow10), ("unicode/utf8.acceptRanges", Rows.laid_unicode_utf8_acceptRanges), ("tabularium/utf.kinds", Rows.laid_tabularium_utf_kinds), ("tabularium/num.next", Rows.laid_tabularium_num_next), ("unicode/utf8.first", Rows.laid_unicode_utf8_first)] w) false (World.laidAll Tryz.prog os [("math/bits.deBruijn32tab", Rows.laid_math_bits_deBruijn32tab), ("math/bits.deBruijn64tab", Rows.laid_math_bits_deBruijn64tab), ("internal/strconv.uint64pow10", Rows.laid_internal_strconv_uint64pow10), ("unicode/utf8.acceptRanges", Rows.laid_unicode_utf8_acceptRanges), ("tabularium/utf.kinds", Rows.laid_tabularium_utf_kinds), ("tabularium/num.next", Rows.laid_tabularium_num_next), ("unicode/utf8.first", Rows.laid_unicode_utf8_first)]) #[.string ⟨#[]⟩] 8 (World.laidAll_os _ _ _) (World.shaped_of_ZipB (by kernel_rfl) (by kernel_rfl)) (by kernel_rfl) (by kernel_rfl) (by kernel_rfl)
      (by rw [MakeChecks.laidMetH_plain _ _ _ (by kernel_rfl)]; exact laidMet_laidAll _ (by kernel_rfl) (by kernel_rfl))) ?_
  intro W base args ds gs before hval0 hW _ _ hL _
  have hval : ∀ (j : Nat) t v, Tryz.f5.params[j]? = some t → args[j]? = some v → Value.okWide Tryz.prog W .any base t v := hval0
  have hW' := hW
  obtain ⟨p, q, hA0, hV, rfl, hfz, hnd⟩ := hW
  have hA : DataW.TrodAll enc Tryz.prog W 0 (fun _ => true) true Tryz.f5.params.toList args.toList ds p := hA0
  rw [Tryz.params5] at hA hval
  obtain ⟨v0, vs0, d0, ds0, p0, q0, hargs, rfl, rfl, h0, r0⟩ := trodAll_cons hA
  obtain ⟨rfl, rfl, rfl⟩ := trodAll_nil r0
  obtain rfl : args = #[v0] := by cases args; simp_all
  obtain ⟨rfl, rfl⟩ := trodVars_none hV
  obtain ⟨a0, rfl, rfl, rfl, w0⟩ := open_string Tryz.underlying9 (hval 0 9 v0 rfl rfl) h0
  have hT := laid_all hL (by kernel_rfl) (by simp) (by simp) (by simp)
  refine (twice_text (s := a0) hT).mono fun e W' ⟨he, hg⟩ => ?_
  subst he
  exact ⟨_, rfl, law_done (tb := 4) Kit.laid rfl rfl (by kernel_rfl) Tryz.underlying4 (by decide +kernel) hW' hg⟩
theorem twice_holds_row : Rows.JencTwiceSaid :=
  OpenClaim.holds_of_wide 5 Tryz.f5 rfl rfl rfl rfl rfl rfl rfl ⟨rfl, rfl, rfl, rfl, rfl⟩ rfl rfl rfl rfl rfl (by kernel_rfl) Tryz.func5 (by kernel_rfl)
    (of_decide_eq_true (by kernel_rfl)) (by unfold Func.isWrapper; first | (rw [if_pos (by decide +kernel)]; kernel_rfl) | (rw [if_neg (by decide +kernel)]; exact ⟨rfl, rfl⟩))
    (fun os started H enc _ => twice_lifted os started H enc)
theorem twice_holds : Rows.JencTwiceCardSaid :=
  Claim7.holds_tied_plain_at .later _ _ _ _ _
    twice_holds_row (fun _ h => by cases h) (by kernel_rfl) (fun _ h => by cases h) jencTwice_row_tie rfl ⟨rfl, rfl⟩ (by kernel_rfl) rfl
    (fun f fn hf hfn => by
      obtain rfl : f = 5 := Option.some.inj ((show Tryz.prog.funcNamed "tabularium/tabulariumlaw10.JencTwice" = some 5 by kernel_rfl).symm.trans hf) |>.symm
      obtain rfl : fn = Tryz.f5 := (Option.some.inj (Tryz.func5.symm.trans hfn)).symm
      exact ⟨by kernel_rfl, fun j t ht => by
        rw [Tryz.params5] at ht
        have hm : t ∈ [9] := by simpa using Array.mem_of_getElem? ht
        have hall : ([9].all fun u => !Tryz.prog.wantsStandIn u) = true := by kernel_rfl
        exact (show Tryz.prog.wantsStandIn t = false by simpa using List.all_eq_true.1 hall t hm)⟩)
    (by kernel_rfl)
end Go.Proofs.YtlfbnfphocpgeaaGreatDoor.Jenc
