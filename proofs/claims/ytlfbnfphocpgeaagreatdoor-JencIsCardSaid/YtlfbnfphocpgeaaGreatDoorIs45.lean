/- JencIs answers true for every input, and changes nothing that was there before the call: no condition, but that the package's own tables hold what the program's text lays in them. -/
import Derived.Test.YtlfbnfphocpgeaaGreatDoorTie
import Derived.Test.YtlfbnfphocpgeaaGreatDoorCards
import Derived.SevenTiedAt
import Derived.Stop.Joined
import Derived.Lay
import Derived.Test.YtlfbnfphocpgeaaGreatDoorIs15
import Derived.Test.YtlfbnfphocpgeaaGreatDoorIs36
import Derived.Test.YtlfbnfphocpgeaaGreatDoorIs44
namespace Go.Proofs.YtlfbnfphocpgeaaGreatDoor.Jdec
open Go.RowKit Kit Txt
open Utf (nb)
open Tre (Val HoldF HoldP)
def TellP {α : Type} (C : Value → α → Prop) (g : Got α) (e : Ending) : Prop :=
 ∃ (k0 : Int) (b0 b1 : Bool) (d : ByteArray) (x0 : Int) (t : ByteArray) (a1 : Option Addr) (n1 m1 : Nat) (a2 : Option Addr) (n2 m2 : Nat) (a p k : Int), e = .returned (.agg #[.int .i64 k0, .bool b0, .bool b1, .string d, .int .i64 x0, .string t, .slice a1 n1 m1, .slice a2 n2 m2, .int .i64 a, .int .i64 p, .int .i64 k]) ∧
   ((∃ x r, g = .ok x r ∧ k = 0 ∧ C (.agg #[.int .i64 k0, .bool b0, .bool b1, .string d, .int .i64 x0, .string t, .slice a1 n1 m1, .slice a2 n2 m2]) x) ∨ ((∃ r j, g = .no r j) ∧ k ≠ 0))
theorem TellP.good {α : Type} {C : Value → α → Prop} {g : Got α} {x : α} {r : List UInt8} (h : g = .ok x r) {k0 : Int} {b0 b1 : Bool} {d : ByteArray} {x0 : Int} {t : ByteArray} {a1 : Option Addr} {n1 m1 : Nat} {a2 : Option Addr} {n2 m2 : Nat} {a p : Int} (hC : C (.agg #[.int .i64 k0, .bool b0, .bool b1, .string d, .int .i64 x0, .string t, .slice a1 n1 m1, .slice a2 n2 m2]) x) :
   TellP C g (.returned (.agg #[.int .i64 k0, .bool b0, .bool b1, .string d, .int .i64 x0, .string t, .slice a1 n1 m1, .slice a2 n2 m2, .int .i64 a, .int .i64 p, .int .i64 0])) := ⟨_, _, _, _, _, _, _, _, _, _, _, _, _, _, _, rfl, .inl ⟨x, r, h, rfl, hC⟩⟩
theorem TellP.bad {α : Type} {C : Value → α → Prop} {j : Nat} {g : Got α} {r : List UInt8} (h : g = .no r j) {k : Int} (hk : k ≠ 0) (k0 : Int) (b0 b1 : Bool) (d : ByteArray) (x0 : Int) (t : ByteArray) (a1 : Option Addr) (n1 m1 : Nat) (a2 : Option Addr) (n2 m2 : Nat) (a p : Int) :
   TellP C g (.returned (.agg #[.int .i64 k0, .bool b0, .bool b1, .string d, .int .i64 x0, .string t, .slice a1 n1 m1, .slice a2 n2 m2, .int .i64 a, .int .i64 p, .int .i64 k])) := ⟨_, _, _, _, _, _, _, _, _, _, _, _, _, _, _, rfl, .inr ⟨⟨r, j, h⟩, hk⟩⟩
theorem parse_drop (l : List UInt8) : parse l = match value 64 (l.drop (skipAt l 0)) with
   | .no r e => .no r e
   | .ok v r => if skip r = [] then .ok v [] else .no (skip r) 14 := by
 unfold parse
 rw [skipAt_drop, List.drop_zero]
 rfl
theorem skip_past {l r : List UInt8} {n : Nat} (hr : r = l.drop n) (_hn : n ≤ l.length) : skip r = [] ↔ ¬ skipAt l n < l.length := by
 rw [hr, ← skipAt_drop, List.drop_eq_nil_iff]
 omega
set_option maxRecDepth 100000 in
set_option maxHeartbeats 2000000 in
theorem rparse_any {w : World} {l : List UInt8} (hl : l.length < 100000) :
   Calls Tryz.prog 9 #[.string (txt l)] w fun e w' => TellP (HoldF w.heap.size w') (parse l) e ∧ Below w.heap.size w w' := by
 have hs := txt_size l
 have hA := World.alloc_heap_new w (.cells #[.int .i64 0, .bool false, .bool false, .string ⟨#[]⟩, .int .i64 0, .string ⟨#[]⟩, .slice none 0 0, .slice none 0 0, .int .i64 0, .int .i64 0, .int .i64 0] 31)
 have bA : Below w.heap.size w (w.alloc (.cells #[.int .i64 0, .bool false, .bool false, .string ⟨#[]⟩, .int .i64 0, .string ⟨#[]⟩, .slice none 0 0, .slice none 0 0, .int .i64 0, .int .i64 0, .int .i64 0] 31)) := (Below.refl _ w).alloc (Nat.le_refl _) _
 have hlw : w.heap.size < (w.alloc (.cells #[.int .i64 0, .bool false, .bool false, .string ⟨#[]⟩, .int .i64 0, .string ⟨#[]⟩, .slice none 0 0, .slice none 0 0, .int .i64 0, .int .i64 0, .int .i64 0] 31)).heap.size := by simp
 have hb := fun (wx : World) (p : Nat) (x : Int) => rbad_any (w := wx) (p := p) (e := x)
 simp only [badV] at hb
 have hbl : ∀ (wx : World) (i : Nat), i ≤ l.length → Calls Tryz.prog 23 #[.string (txt l), .int .i64 i] wx fun e w' => e = .returned (.int .i64 (skipAt l i)) ∧ w' = wx := fun wx i hi => rblanks_any (w := wx) hl hi
 have hv := fun (wx : World) => valR_all hl 64 (Nat.le_refl _) wx (skipAt l 0) (skipAt_le l 0)
 have hvg := value_good 64 (l.drop (skipAt l 0))
 have hp := parse_drop l
 generalize value 64 (l.drop (skipAt l 0)) = gv at *
 generalize hq : skipAt l 0 = q at *
 obtain ⟨WA, hWA⟩ : ∃ WA, w.alloc (.cells #[.int .i64 0, .bool false, .bool false, .string ⟨#[]⟩, .int .i64 0, .string ⟨#[]⟩, .slice none 0 0, .slice none 0 0, .int .i64 0, .int .i64 0, .int .i64 0] 31) = WA := ⟨_, rfl⟩
 rw [hWA] at hA bA hlw
 have HWA := Lib.hid hWA
 have HBL0 := Lib.hid (fun wx => hbl wx 0 (Nat.zero_le _))
 have HBL := Lib.hid hbl
 have HV := Lib.hid hv
 have HB := Lib.hid hb
 have HP := Lib.hid hp
 have HVG := Lib.hid hvg
 have HQ := Lib.hid hq
 have HA := Lib.hid hA
 have HBA := Lib.hid bA
 clear hWA hbl hv hb hp hvg hq hA bA
 go_enter Tryz.func9, Tryz.ntmps9
 go_wp2_with fail
 refine (HBL0.out _).mono ?_
 rintro e wx ⟨rfl, rfl⟩
 rw [HWA.out, HQ.out]
 go_wp2_with fail
 refine (HV.out _).mono ?_
 rintro e w1 ⟨⟨k0, b0, b1, dd, x0, tt, a1, n1, m1, a2, n2, m2, aa, pp, kk, rfl, hcase⟩, k1⟩
 have hN := World.alloc_heap_new w1 (.cells #[.int .i64 k0, .bool b0, .bool b1, .string dd, .int .i64 x0, .string tt, .slice a1 n1 m1, .slice a2 n2 m2, .int .i64 aa, .int .i64 pp, .int .i64 kk] 31)
 obtain ⟨W1, hW1⟩ : ∃ W1, w1.alloc (.cells #[.int .i64 k0, .bool b0, .bool b1, .string dd, .int .i64 x0, .string tt, .slice a1 n1 m1, .slice a2 n2 m2, .int .i64 aa, .int .i64 pp, .int .i64 kk] 31) = W1 := ⟨_, rfl⟩
 have k11 : Below w1.heap.size w1 W1 := by rw [← hW1]; exact (Below.refl _ w1).alloc (Nat.le_refl _) _
 rw [hW1] at hN
 have hgot := ((k1.trans (k11.mono k1.size)).block _ (lt_of_heap HA.out)).trans HA.out
 have hbel := HBA.out.trans ((k1.trans (k11.mono k1.size)).mono HBA.out.size)
 have hneM : ¬ w1.heap.size = w.heap.size := by have := k1.size; omega
 have hneM' : ¬ w.heap.size = w1.heap.size := by have := k1.size; omega
 have HH := fun (u : Value) (x : Val) (h : HoldF WA.heap.size w1 u x) => Tre.HoldF.below h k11
 have HHH := Lib.hid HH
 have HW1 := Lib.hid hW1
 obtain ⟨u0, u1, u2, u3, u4, u5, u6, u7, u8, u9, u10⟩ := eleven hN
 have hlM := lt_of_heap hN
 have hlG := lt_of_heap hgot
 clear k1 k11 hW1 HH
 go_upto_region 2 with fail
 rw [HW1.out]
 clear HW1
 rcases hcase with ⟨x, r, hve, ha, rfl, hhold⟩ | ⟨⟨r, j, hve⟩, hkne⟩
 · have hH1 := HHH.out _ _ hhold
   have hg := HVG.out
   rw [hve] at hg
   have hg1 : r <:+ l := (hg.1).trans (List.drop_suffix _ _)
   have hrl : r.length ≤ l.length := hg1.length_le
   have hrd : r = l.drop (l.length - r.length) := List.suffix_iff_eq_drop.1 hg1
   have hse := skip_past hrd (by omega)
   have hpp := HP.out
   rw [hve] at hpp
   dsimp only at hpp
   generalize hn : l.length - r.length = n at *
   have hnl : n ≤ l.length := by omega
   subst ha
   have hH1' := Lib.hid hH1
   clear hve hH1 hhold hg hg1 hrd hrl hn
   by_cases hsk : skipAt l n < l.length
   · have hdl : decide ((skipAt l n : Int) < (l.length : Int)) = true := decide_eq_true (by omega)
     have hdl2 : (skipAt l n : Int) < (l.length : Int) := by omega
     rw [if_neg (fun e => hse.1 e hsk)] at hpp
     have HPP := Lib.hid hpp
     clear hse hpp
     have HBN := Lib.hid (fun wx => HBL.out wx n hnl)
     generalize skipAt l n = sn at *
     go_wp2_with fail
     refine (HBN.out _).mono ?_
     rintro e wx ⟨rfl, rfl⟩
     go_wp2_with fail
     refine (HB.out _ _ 14).mono ?_
     rintro e w2 ⟨rfl, k2⟩
     have hgot2 := (k2.block _ (lt_of_heap hgot)).trans hgot
     have hbel2 := hbel.trans (k2.mono hbel.size)
     clear k2 u0 u1 u2 u3 u4 u5 u6 u7 u8 u9 u10
     have h9 := set11 hgot2 (.int .i64 0) (.bool false) (.bool false) (.string ⟨#[]⟩) (.int .i64 0) (.string ⟨#[]⟩) (.slice none 0 0) (.slice none 0 0) (.int .i64 0) (.int .i64 sn) (.int .i64 14)
     have b9 := below11 hbel2 (Nat.le_refl _) (.int .i64 0) (.bool false) (.bool false) (.string ⟨#[]⟩) (.int .i64 0) (.string ⟨#[]⟩) (.slice none 0 0) (.slice none 0 0) (.int .i64 0) (.int .i64 sn) (.int .i64 14)
     obtain ⟨z0, z1, z2, z3, z4, z5, z6, z7, z8, z9, z10⟩ := eleven h9
     obtain ⟨y0, y1, y2, y3, y4, y5, y6, y7, y8, y9, y10⟩ := eleven hgot2
     have qf := free_of hgot2
     have HB9 := Lib.hid b9
     clear h9 b9
     go_wp2_with fail
     refine bodyPost_ret (v := .agg #[.int .i64 0, .bool false, .bool false, .string ⟨#[]⟩, .int .i64 0, .string ⟨#[]⟩, .slice none 0 0, .slice none 0 0, .int .i64 0, .int .i64 sn, .int .i64 14]) (by simp [results, Tryz.results9, go_sem, z0, z1, z2, z3, z4, z5, z6, z7, z8, z9, z10]) rfl ⟨TellP.bad HPP.out (by decide) _ _ _ _ _ _ _ _ _ _ _ _ _ _, HB9.out⟩
   · have hdl : decide ((skipAt l n : Int) < (l.length : Int)) = false := decide_eq_false (by omega)
     have hdl2 : ¬ (skipAt l n : Int) < (l.length : Int) := by omega
     rw [if_pos (hse.2 hsk)] at hpp
     have HPP := Lib.hid hpp
     clear hse hpp
     have HBN := Lib.hid (fun wx => HBL.out wx n hnl)
     generalize skipAt l n = sn at *
     have HS := Lib.hid (holdF_set11 hH1'.out hlw (show w.heap.size ≤ WA.heap.size by omega) (.int .i64 k0) (.bool b0) (.bool b1) (.string dd) (.int .i64 x0) (.string tt) (.slice a1 n1 m1) (.slice a2 n2 m2) (.int .i64 0) (.int .i64 (-1)) (.int .i64 0))
     go_wp2_with fail
     refine (HBN.out _).mono ?_
     rintro e wx ⟨rfl, rfl⟩
     have h9 := set11 hgot (.int .i64 k0) (.bool b0) (.bool b1) (.string dd) (.int .i64 x0) (.string tt) (.slice a1 n1 m1) (.slice a2 n2 m2) (.int .i64 0) (.int .i64 (-1)) (.int .i64 0)
     have b9 := below11 hbel (Nat.le_refl _) (.int .i64 k0) (.bool b0) (.bool b1) (.string dd) (.int .i64 x0) (.string tt) (.slice a1 n1 m1) (.slice a2 n2 m2) (.int .i64 0) (.int .i64 (-1)) (.int .i64 0)
     obtain ⟨z0, z1, z2, z3, z4, z5, z6, z7, z8, z9, z10⟩ := eleven h9
     obtain ⟨y0, y1, y2, y3, y4, y5, y6, y7, y8, y9, y10⟩ := eleven hgot
     have qf := free_of hgot
     have HB9 := Lib.hid b9
     clear h9 b9
     go_wp2_with fail
     refine bodyPost_ret (v := .agg #[.int .i64 k0, .bool b0, .bool b1, .string dd, .int .i64 x0, .string tt, .slice a1 n1 m1, .slice a2 n2 m2, .int .i64 0, .int .i64 (-1), .int .i64 0]) (by simp [results, Tryz.results9, go_sem, z0, z1, z2, z3, z4, z5, z6, z7, z8, z9, z10]) rfl ⟨TellP.good HPP.out HS.out, HB9.out⟩
 · have hpp := HP.out
   rw [hve] at hpp
   have hpp : parse l = .no r j := hpp
   have HPP := Lib.hid hpp
   have hkb : (kk == 0) = false := by simpa using hkne
   have hkb2 : (kk != 0) = true := by simpa using hkne
   have HK := Lib.hid hkne
   clear hpp hve hkne
   have h9 := set11 hgot (.int .i64 k0) (.bool b0) (.bool b1) (.string dd) (.int .i64 x0) (.string tt) (.slice a1 n1 m1) (.slice a2 n2 m2) (.int .i64 aa) (.int .i64 pp) (.int .i64 kk)
   have b9 := below11 hbel (Nat.le_refl _) (.int .i64 k0) (.bool b0) (.bool b1) (.string dd) (.int .i64 x0) (.string tt) (.slice a1 n1 m1) (.slice a2 n2 m2) (.int .i64 aa) (.int .i64 pp) (.int .i64 kk)
   obtain ⟨z0, z1, z2, z3, z4, z5, z6, z7, z8, z9, z10⟩ := eleven h9
   obtain ⟨y0, y1, y2, y3, y4, y5, y6, y7, y8, y9, y10⟩ := eleven hgot
   have qf := free_of hgot
   have HB9 := Lib.hid b9
   clear h9 b9
   go_wp2_with fail
   refine bodyPost_ret (v := .agg #[.int .i64 k0, .bool b0, .bool b1, .string dd, .int .i64 x0, .string tt, .slice a1 n1 m1, .slice a2 n2 m2, .int .i64 aa, .int .i64 pp, .int .i64 kk]) (by simp [results, Tryz.results9, go_sem, z0, z1, z2, z3, z4, z5, z6, z7, z8, z9, z10]) rfl ⟨TellP.bad rfl HK.out _ _ _ _ _ _ _ _ _ _ _ _ _ _, HB9.out⟩
end Go.Proofs.YtlfbnfphocpgeaaGreatDoor.Jdec
namespace Go.Proofs.YtlfbnfphocpgeaaGreatDoor.Jenc
open Go.RowKit Kit Txt
open Tre (Val Whole HoldV HoldF Hold Holds Fine Mild count sort zeroV)
open Jdec (parse parse_good Ok eight eleven rparse_any TellP)
structure All (w : World) : Prop where
 ok : Ok w
 pow : Num.Pow w
theorem All.below {w w' : World} (h : All w) (k : Below w.heap.size w w') : All w' := ⟨h.ok.below k, h.pow.below k⟩
end Go.Proofs.YtlfbnfphocpgeaaGreatDoor.Jenc
namespace Go.Proofs.YtlfbnfphocpgeaaGreatDoor.Jenc
open Go.RowKit Kit Txt
open Tre (Val Whole HoldV HoldF Hold Holds Fine Mild count sort)
open Jdec (parse parse_good eleven rparse_any TellP)
theorem eq_swap (a b : List UInt8) : decide (a = b) = decide (b = a) := decide_eq_decide.2 eq_comm
set_option maxRecDepth 100000 in
set_option maxHeartbeats 2000000 in
theorem r10is_any {w : World} {s : List UInt8} (hs : s.length < 100000) (hm : ∀ v r, parse s = .ok v r → Whole v ∧ siz 30 v ≤ 200000 ∧ count v < 1000000) : Calls Tryz.prog 14 #[.string (txt s)] w fun e w' => e = .returned (.bool (isB s)) ∧ Below w.heap.size w w' := by
 have hz := txt_size s
 have HP := Lib.hid (rparse_any (w := w) (l := s) (by omega))
 have hib : isB s = match parse s with
   | .ok v _ => decide (s = prt false 0 (sort v))
   | .no _ _ => false := rfl
 generalize isB s = bb at *
 go_enter Tryz.func14, Tryz.ntmps14
 go_wp2_with fail
 refine HP.out.mono ?_
 rintro e w1 ⟨⟨k0, b0, b1, dd, x0, tt, a1, n1, m1, a2, n2, m2, aa, pp, kk, rfl, hcase⟩, k1⟩
 have hN := World.alloc_heap_new w1 (.cells #[.int .i64 k0, .bool b0, .bool b1, .string dd, .int .i64 x0, .string tt, .slice a1 n1 m1, .slice a2 n2 m2, .int .i64 aa, .int .i64 pp, .int .i64 kk] 31)
 have kA : Below w1.heap.size w1 (w1.alloc (.cells #[.int .i64 k0, .bool b0, .bool b1, .string dd, .int .i64 x0, .string tt, .slice a1 n1 m1, .slice a2 n2 m2, .int .i64 aa, .int .i64 pp, .int .i64 kk] 31)) := (Below.refl _ w1).alloc (Nat.le_refl _) _
 obtain ⟨W1, hW1⟩ : ∃ W1, w1.alloc (.cells #[.int .i64 k0, .bool b0, .bool b1, .string dd, .int .i64 x0, .string tt, .slice a1 n1 m1, .slice a2 n2 m2, .int .i64 aa, .int .i64 pp, .int .i64 kk] 31) = W1 := ⟨_, rfl⟩
 rw [hW1] at hN kA
 have b1' := k1.trans (kA.mono k1.size)
 obtain ⟨u0, u1, u2, u3, u4, u5, u6, u7, u8, u9, u10⟩ := eleven hN
 have hlM := lt_of_heap hN
 have HB := Lib.hid b1'
 have HW1 := Lib.hid hW1
 rcases hcase with ⟨v, r, hve, rfl, hh⟩ | ⟨⟨r, j, hve⟩, hkne⟩
 · obtain ⟨c1, c2, c3⟩ := hm v r hve
   rw [hve] at hib
   dsimp only at hib
   have HC := Lib.hid (r10canon_any c1 c2 c3 ((Tre.HoldF.below hh kA).hold))
   have hq := txt_beq (prt false 0 (sort v)) s
   rw [eq_swap, ← hib] at hq
   generalize prt false 0 (sort v) = pv at *
   clear hve hh k1 kA b1' hW1 hm c1 c2 c3 hN hib
   go_upto_region 2 with fail
   rw [HW1.out]
   go_wp2_with fail
   refine HC.out.mono ?_
   rintro e w2 ⟨rfl, k2⟩
   have b2 := HB.out.trans (k2.mono HB.out.size)
   clear k2 u0 u1 u2 u3 u4 u5 u6 u7 u8 u9 u10 hlM
   go_wp2_with fail
   go_ret
   exact ⟨rfl, b2⟩
 · have hkb : (kk == 0) = false := by simpa using hkne
   rw [hve] at hib
   dsimp only at hib
   subst hib
   clear hve k1 kA b1' hW1 hm hN hkne
   go_upto_region 2 with fail
   rw [HW1.out]
   go_wp2_with fail
   go_ret
   exact ⟨rfl, HB.out⟩
set_option maxRecDepth 100000 in
set_option maxHeartbeats 2000000 in
theorem is_law {w : World} (ho : All w) (s : List UInt8) : Calls Tryz.prog 4 #[.string (txt s)] w fun e w' => e = .returned (.bool true) ∧ Below w.heap.size w w' := by
 have hw := Lib.hid (wakes_any ho.ok.utf ho.pow)
 have hz := txt_size s
 by_cases g1 : 1500 < s.length
 · have d1 : decide ((1500 : Int) < (s.length : Int)) = true := decide_eq_true (by omega)
   have d2 : (1500 : Int) < (s.length : Int) := by omega
   go_enter Tryz.func4, Tryz.ntmps4
   go_wp2_with fail
   refine hw.out.mono ?_
   rintro e w1 ⟨rfl, k1⟩
   go_wp2_with fail
   go_ret
   exact ⟨rfl, k1⟩
 have d1 : decide ((1500 : Int) < (s.length : Int)) = false := decide_eq_false (by omega)
 have d2 : ¬ (1500 : Int) < (s.length : Int) := by omega
 have HI := Lib.hid fun (wx : World) (hb : Below w.heap.size w wx) => jis_any (w := wx) (s := s) (by omega) (ho.below hb).ok (ho.below hb).pow (fun v r h => by
   obtain ⟨-, hm, hc, -⟩ := Jdec.parse_mild (by omega) h
   exact ⟨hm, hc⟩)
 have HR := Lib.hid fun (wx : World) => r10is_any (w := wx) (s := s) (by omega) (fun v r h => by
   obtain ⟨hr, -, hc, -⟩ := Jdec.parse_mild (by omega) h
   have := Jdec.parse_costB h
   exact ⟨hr.2, by omega, by omega⟩)
 generalize isB s = bb at *
 clear ho
 go_enter Tryz.func4, Tryz.ntmps4
 go_wp2_with fail
 refine hw.out.mono ?_
 rintro e w1 ⟨rfl, k1⟩
 have HI1 := Lib.hid (HI.out w1 k1)
 have HB1 := Lib.hid k1
 clear k1
 go_wp2_with fail
 refine HI1.out.mono ?_
 rintro e w2 ⟨rfl, k2⟩
 have HB2 := Lib.hid (HB1.out.trans (k2.mono HB1.out.size))
 clear k2
 go_wp2_with fail
 refine (HR.out _).mono ?_
 rintro e w3 ⟨rfl, k3⟩
 have b3 := HB2.out.trans (k3.mono HB2.out.size)
 clear k3
 go_wp2_with fail
 go_ret
 exact ⟨rfl, b3⟩
theorem is_text {w : World} {s : ByteArray} (ho : All w) : Calls Tryz.prog 4 #[.string s] w fun e w' => e = .returned (.bool true) ∧ Below w.heap.size w w' := by
 have := is_law ho s.data.toList
 rwa [← txt_data] at this
end Go.Proofs.YtlfbnfphocpgeaaGreatDoor.Jenc
namespace Go.Proofs.YtlfbnfphocpgeaaGreatDoor.Num
open Go.ChangeShapes Go.WideShapes Go.ChangeAt Go.RowKit Kit
def pcells : Array Value := (Lib.pow10Tab.map fun z => Value.int .u64 z).toArray
theorem gPow : Tryz.prog.globalNamed "internal/strconv.uint64pow10" = some 4 := by kernel_rfl
theorem tPow : (Tryz.prog.globals[4]?).map (·.type) = some 225 := by kernel_rfl
theorem plainPow : plainT Tryz.prog 5 225 = true := by kernel_rfl
theorem readsPow (W : World) : DataW.trod (fun _ => ()) Tryz.prog W 0 (fun _ => true) false 5 225 pcells.toList = some (Rows.laid_internal_strconv_uint64pow10, []) := by kernel_rfl
theorem listed {P : Program} {w : World} : ∀ {l : List (String × DataW Unit)} {ps : List MemPlace}, DataW.LaidVars P w l ps → ∀ {n : String} {d : DataW Unit}, (n, d) ∈ l →
   ∃ g t cs f p, P.globalNamed n = some g ∧ (P.globals[g]?).map (·.type) = some t ∧ w.var? P n = some cs ∧ DataW.trod (fun _ => ()) P w 0 (fun _ => true) false f t cs.toList = some (d, p)
 | [], _, _, _, _, hm => by cases hm
 | (n', d') :: r, ps, h, n, d, hm => by
   obtain ⟨g, t, cs, fuel, p, q, h1, h2, h3, h4, h5, _⟩ := h
   rcases List.mem_cons.1 hm with e | e
   · cases e
     exact ⟨g, t, cs, fuel, p, h1, h2, h3, h4⟩
   · exact listed h5 e
end Go.Proofs.YtlfbnfphocpgeaaGreatDoor.Num
namespace Go.Proofs.YtlfbnfphocpgeaaGreatDoor.Jenc
open Go.ChangeShapes Go.WideShapes Go.ChangeAt Go.RowKit Kit
theorem laid_both {W : World} {laid : List (String × DataW Unit)} (h : laidMetH Tryz.prog laid W) (hp : (laid.all fun x => x.2.handleName?.isNone) = true)
   (h1 : ("tabularium/utf.kinds", Rows.laid_tabularium_utf_kinds) ∈ laid) (h2 : ("internal/strconv.uint64pow10", Rows.laid_internal_strconv_uint64pow10) ∈ laid) : Utf.Laid W ∧ Num.Pow W := by
 rw [MakeChecks.laidMetH_plain _ _ _ hp] at h
 obtain ⟨ps, hv, _⟩ := h
 constructor
 · obtain ⟨g, t, cs, f, p, hg, ht, hvr, hd⟩ := Num.listed hv h1
   obtain rfl := Option.some.inj (Utf.gKinds.symm.trans hg)
   obtain rfl := Option.some.inj (Utf.tKinds.symm.trans ht)
   have e := trod_inj 5 227 _ _ _ _ _ _ _ Utf.plainKinds hd (Utf.readsKinds W)
   unfold World.var? at hvr
   rw [Utf.gKinds] at hvr
   simp only [Option.bind_some] at hvr
   split at hvr
   · rename_i c ty fr hh
     have : c = cs := Option.some.inj hvr
     subst this
     have : c = Utf.kcells := by
       rw [← Array.toArray_toList (xs := c), e]
     subst this
     exact ⟨_, _, hh⟩
   · cases hvr
 · obtain ⟨g, t, cs, f, p, hg, ht, hvr, hd⟩ := Num.listed hv h2
   obtain rfl := Option.some.inj (Num.gPow.symm.trans hg)
   obtain rfl := Option.some.inj (Num.tPow.symm.trans ht)
   have e := trod_inj 5 225 _ _ _ _ _ _ _ Num.plainPow hd (Num.readsPow W)
   show W.var? Tryz.prog "internal/strconv.uint64pow10" = some (Lib.pow10Tab.map fun z => Value.int .u64 z).toArray
   rw [hvr, ← Array.toArray_toList (xs := cs), e]
   rfl
end Go.Proofs.YtlfbnfphocpgeaaGreatDoor.Jenc
namespace Go.Proofs.YtlfbnfphocpgeaaGreatDoor.Jenc
open Go.ChangeShapes Go.WideShapes Go.ChangeAt Go.RowKit Kit
theorem laid_all {W : World} {laid : List (String × DataW Unit)} (h : laidMetH Tryz.prog laid W) (hp : (laid.all fun x => x.2.handleName?.isNone) = true)
   (h1 : ("tabularium/utf.kinds", Rows.laid_tabularium_utf_kinds) ∈ laid) (h2 : ("internal/strconv.uint64pow10", Rows.laid_internal_strconv_uint64pow10) ∈ laid) (h3 : ("tabularium/num.next", Rows.laid_tabularium_num_next) ∈ laid) : All W :=
 ⟨Jdec.laid_ok h hp h3 h1, (laid_both h hp h1 h2).2⟩
end Go.Proofs.YtlfbnfphocpgeaaGreatDoor.Jenc
namespace Go.Proofs.YtlfbnfphocpgeaaGreatDoor.Jenc
open Go.ChangeShapes Go.WideShapes Go.ChangeAt Go.ChangeMaps Go.RowKit Kit
set_option maxRecDepth 100000 in
theorem is_lifted (os : Os) (started : os.Started) (H : Type) (enc : TypeId × Value → H) :
   ReturnsInHanded {} Tryz.checked os 4 .any (fun w args => (Rows.jencIsSpec.pre enc Tryz.prog Tryz.f4 [] false w args ∧ laidMetH Tryz.prog [("math/bits.deBruijn32tab", Rows.laid_math_bits_deBruijn32tab), ("math/bits.deBruijn64tab", Rows.laid_math_bits_deBruijn64tab), ("internal/strconv.uint64pow10", Rows.laid_internal_strconv_uint64pow10), ("unicode/utf8.acceptRanges", Rows.laid_unicode_utf8_acceptRanges), ("tabularium/utf.kinds", Rows.laid_tabularium_utf_kinds), ("tabularium/num.next", Rows.laid_tabularium_num_next), ("unicode/utf8.first", Rows.laid_unicode_utf8_first)] w) ∧ sizedMet enc Tryz.prog Tryz.f4 (OpenSpec.ofChange Rows.jencIsSpec) false w args)
     (Rows.jencIsSpec.post enc Tryz.prog Tryz.f4 false true false false) := by
 refine returnsInHanded_of_change_and (C := Tryz.checked) (X := fun w _ => laidMetH Tryz.prog [("math/bits.deBruijn32tab", Rows.laid_math_bits_deBruijn32tab), ("math/bits.deBruijn64tab", Rows.laid_math_bits_deBruijn64tab), ("internal/strconv.uint64pow10", Rows.laid_internal_strconv_uint64pow10), ("unicode/utf8.acceptRanges", Rows.laid_unicode_utf8_acceptRanges), ("tabularium/utf.kinds", Rows.laid_tabularium_utf_kinds), ("tabularium/num.next", Rows.laid_tabularium_num_next), ("unicode/utf8.first", Rows.laid_unicode_utf8_first)] w) (fun _ _ _ hh h => h.of_heap hh) own started (by kernel_rfl) Tryz.func4
   (ChangeSpec.witness_shaped (enc := enc) (C := Tryz.checked) (os := os) (X := fun w _ => laidMetH Tryz.prog [("math/bits.deBruijn32tab", Rows.laid_math_bits_deBruijn32tab), ("math/bits.deBruijn64tab", Rows.laid_math_bits_deBruijn64tab), ("internal/strconv.uint64pow10", Rows.laid_internal_strconv_uint64pow10), ("unicode/utf8.acceptRanges", Rows.laid_unicode_utf8_acceptRanges), ("tabularium/utf.kinds", Rows.laid_tabularium_utf_kinds), ("tabularium/num.next", Rows.laid_tabularium_num_next), ("unicode/utf8.first", Rows.laid_unicode_utf8_first)] w) false (World.laidAll Tryz.prog os [("math/bits.deBruijn32tab", Rows.laid_math_bits_deBruijn32tab), ("math/bits.deBruijn64tab", Rows.laid_math_bits_deBruijn64tab), ("internal/strconv.uint64pow10", Rows.laid_internal_strconv_uint64pow10), ("unicode/utf8.acceptRanges", Rows.laid_unicode_utf8_acceptRanges), ("tabularium/utf.kinds", Rows.laid_tabularium_utf_kinds), ("tabularium/num.next", Rows.laid_tabularium_num_next), ("unicode/utf8.first", Rows.laid_unicode_utf8_first)]) #[.string ⟨#[]⟩] 8 (World.laidAll_os _ _ _) (World.shaped_of_ZipB (by kernel_rfl) (by kernel_rfl)) (by kernel_rfl) (by kernel_rfl) (by kernel_rfl)
     (by rw [MakeChecks.laidMetH_plain _ _ _ (by kernel_rfl)]; exact laidMet_laidAll _ (by kernel_rfl) (by kernel_rfl))) ?_
 intro W base args ds gs before hval0 hW _ _ hL _
 have hval : ∀ (j : Nat) t v, Tryz.f4.params[j]? = some t → args[j]? = some v → Value.okWide Tryz.prog W .any base t v := hval0
 have hW' := hW
 obtain ⟨p, q, hA0, hV, rfl, hfz, hnd⟩ := hW
 have hA : DataW.TrodAll enc Tryz.prog W 0 (fun _ => true) true Tryz.f4.params.toList args.toList ds p := hA0
 rw [Tryz.params4] at hA hval
 obtain ⟨v0, vs0, d0, ds0, p0, q0, hargs, rfl, rfl, h0, r0⟩ := trodAll_cons hA
 obtain ⟨rfl, rfl, rfl⟩ := trodAll_nil r0
 obtain rfl : args = #[v0] := by cases args; simp_all
 obtain ⟨rfl, rfl⟩ := trodVars_none hV
 obtain ⟨a0, rfl, rfl, rfl, w0⟩ := open_string Tryz.underlying9 (hval 0 9 v0 rfl rfl) h0
 have hT := laid_all hL (by kernel_rfl) (by simp) (by simp) (by simp)
 refine (is_text (s := a0) hT).mono fun e W' ⟨he, hg⟩ => ?_
 subst he
 exact ⟨_, rfl, law_done (tb := 4) Kit.laid rfl rfl (by kernel_rfl) Tryz.underlying4 (by decide +kernel) hW' hg⟩
theorem is_holds_row : Rows.JencIsSaid :=
 OpenClaim.holds_of_wide 4 Tryz.f4 rfl rfl rfl rfl rfl rfl rfl ⟨rfl, rfl, rfl, rfl, rfl⟩ rfl rfl rfl rfl rfl (by kernel_rfl) Tryz.func4 (by kernel_rfl)
   (of_decide_eq_true (by kernel_rfl)) (by unfold Func.isWrapper; first | (rw [if_pos (by decide +kernel)]; kernel_rfl) | (rw [if_neg (by decide +kernel)]; exact ⟨rfl, rfl⟩))
   (fun os started H enc _ => is_lifted os started H enc)
theorem is_holds : Rows.JencIsCardSaid :=
 Claim7.holds_tied_plain_at .later _ _ _ _ _
   is_holds_row (fun _ h => by cases h) (by kernel_rfl) (fun _ h => by cases h) jencIs_row_tie rfl ⟨rfl, rfl⟩ (by kernel_rfl) rfl
   (fun f fn hf hfn => by
     obtain rfl : f = 4 := Option.some.inj ((show Tryz.prog.funcNamed "tabularium/tabulariumlaw10.JencIs" = some 4 by kernel_rfl).symm.trans hf) |>.symm
     obtain rfl : fn = Tryz.f4 := (Option.some.inj (Tryz.func4.symm.trans hfn)).symm
     exact ⟨by kernel_rfl, fun j t ht => by
       rw [Tryz.params4] at ht
       have hm : t ∈ [9] := by simpa using Array.mem_of_getElem? ht
       have hall : ([9].all fun u => !Tryz.prog.wantsStandIn u) = true := by kernel_rfl
       exact (show Tryz.prog.wantsStandIn t = false by simpa using List.all_eq_true.1 hall t hm)⟩)
   (by kernel_rfl)
end Go.Proofs.YtlfbnfphocpgeaaGreatDoor.Jenc
