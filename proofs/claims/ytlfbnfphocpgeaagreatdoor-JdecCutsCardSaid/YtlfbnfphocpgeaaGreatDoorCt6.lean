/- JdecCuts answers true for every input, and changes nothing that was there before the call: no condition, but that the package's own tables hold what the program's text lays in them. -/
import Derived.MakeChecks
import Derived.LaidMore
import Derived.Lib.Hide
import Derived.Deep.RegionWith
import Derived.Deep.QuietTactic
import Derived.BigQuiet
import Derived.Deep.RegionHeld3
import Derived.Deep.OwnRows
import Derived.Test.YtlfbnfphocpgeaaGreatDoorTie
import Derived.Test.YtlfbnfphocpgeaaGreatDoorCards
import Derived.SevenTiedAt
import Derived.Stop.Joined
import Derived.Lay
import Derived.Test.YtlfbnfphocpgeaaGreatDoorCt5
namespace Go.Proofs.YtlfbnfphocpgeaaGreatDoor.Jdec
open Go.RowKit Kit Txt
open Utf (nb)
open Tre (Val HoldF HoldP)
theorem TellE.map {α : Type} {C D : Value → α → Prop} {n : Nat} {g : Got α} {e : Ending} (h : TellE C n g e) (hCD : ∀ u x, C u x → D u x) : TellE D n g e := by
  obtain ⟨k0, b0, b1, d, x0, t, a1, n1, m1, a2, n2, m2, a, p, k, he, hc⟩ := h
  exact ⟨k0, b0, b1, d, x0, t, a1, n1, m1, a2, n2, m2, a, p, k, he, hc.imp (fun ⟨x, r, h1, h2, h3, h4⟩ => ⟨x, r, h1, h2, h3, hCD _ _ h4⟩) id⟩
/-- The value at a place, so many more deep. -/
def ValR (l : List UInt8) (K : Nat) : Prop := ∀ (w : World) (q : Nat), q ≤ l.length → Calls Tryz.prog 22 #[.string (txt l), .int .i64 q, .int .i64 (65 - (K : Int))] w fun e w' => TellE (HoldF w.heap.size w') l.length (value K (l.drop q)) e ∧ Below w.heap.size w w'
theorem head_of {l : List UInt8} {q : Nat} (c : UInt8) (hc : c.toNat ≠ 0) (h : nb l q = c.toNat) : (l.drop q).head? = some c := (head_at l q c hc).2 h
theorem read_digit {val : List UInt8 → Got Val} {l : List UInt8} {c : UInt8} (h : l.head? = some c) (hd : digit c = true) : read val l = number l := by
  unfold read
  rw [h]
  dsimp only
  rw [if_pos hd]
theorem begins_digit {c : UInt8} (hd : digit c = true) : begins c = true := by unfold begins; rw [hd]; simp
set_option maxRecDepth 100000 in
set_option maxHeartbeats 2000000 in
theorem rvalue_end {w : World} {l : List UInt8} {q K : Nat} {d : Int} (_hl : l.length < 100000) (hq : l.length ≤ q) :
    Calls Tryz.prog 22 #[.string (txt l), .int .i64 q, .int .i64 d] w fun e w' => TellE (HoldF w.heap.size w') l.length (value K (l.drop q)) e ∧ Below w.heap.size w w' := by
  have hs := txt_size l
  have hA := World.alloc_heap_new w (.cells #[.int .i64 0, .bool false, .bool false, .string ⟨#[]⟩, .int .i64 0, .string ⟨#[]⟩, .slice none 0 0, .slice none 0 0, .int .i64 0, .int .i64 0, .int .i64 0] 31)
  have bA : Below w.heap.size w (w.alloc (.cells #[.int .i64 0, .bool false, .bool false, .string ⟨#[]⟩, .int .i64 0, .string ⟨#[]⟩, .slice none 0 0, .slice none 0 0, .int .i64 0, .int .i64 0, .int .i64 0] 31)) := (Below.refl _ w).alloc (Nat.le_refl _) _
  have hlw : w.heap.size < (w.alloc (.cells #[.int .i64 0, .bool false, .bool false, .string ⟨#[]⟩, .int .i64 0, .string ⟨#[]⟩, .slice none 0 0, .slice none 0 0, .int .i64 0, .int .i64 0, .int .i64 0] 31)).heap.size := by simp
  have hb := fun (wx : World) (x : Int) => rbad_any (w := wx) (p := q) (e := x)
  simp only [badV] at hb
  have hno : value K (l.drop q) = .no (l.drop q) 2 := by rw [List.drop_eq_nil_of_le (by omega)]; exact value_end K rfl
  have HF := Lib.hid fun (C : Value → Val → Prop) => TellE.bad2 (C := C) (n := l.length) hno (show (2 : Int) ≠ 0 by decide) 0 false false ⟨#[]⟩ 0 ⟨#[]⟩ none 0 0 none 0 0 0 q
  have g1 : (l.length : Int) ≤ (q : Int) := by omega
  have g2 : decide (l.length ≤ q) = true := decide_eq_true (by omega)
  have HBD := Lib.hid (hb (w.alloc (.cells #[.int .i64 0, .bool false, .bool false, .string ⟨#[]⟩, .int .i64 0, .string ⟨#[]⟩, .slice none 0 0, .slice none 0 0, .int .i64 0, .int .i64 0, .int .i64 0] 31)) 2)
  have HA := Lib.hid hA
  have HBA := Lib.hid bA
  clear hno hb hA bA
  go_enter Tryz.func22, Tryz.ntmps22
  go_wp2_with fail
  refine HBD.out.mono ?_
  rintro e w2 ⟨rfl, k2⟩
  have hgot := (k2.block _ (lt_of_heap HA.out)).trans HA.out
  have hbel := HBA.out.trans (k2.mono HBA.out.size)
  clear k2
  have h9 := set11 hgot (.int .i64 0) (.bool false) (.bool false) (.string ⟨#[]⟩) (.int .i64 0) (.string ⟨#[]⟩) (.slice none 0 0) (.slice none 0 0) (.int .i64 0) (.int .i64 q) (.int .i64 2)
  have b9 := below11 hbel (Nat.le_refl _) (.int .i64 0) (.bool false) (.bool false) (.string ⟨#[]⟩) (.int .i64 0) (.string ⟨#[]⟩) (.slice none 0 0) (.slice none 0 0) (.int .i64 0) (.int .i64 q) (.int .i64 2)
  obtain ⟨z0, z1, z2, z3, z4, z5, z6, z7, z8, z9, z10⟩ := eleven h9
  obtain ⟨y0, y1, y2, y3, y4, y5, y6, y7, y8, y9, y10⟩ := eleven hgot
  have qf := free_of hgot
  have HB9 := Lib.hid b9
  clear h9 b9
  go_wp2_with fail
  refine bodyPost_ret (v := .agg #[.int .i64 0, .bool false, .bool false, .string ⟨#[]⟩, .int .i64 0, .string ⟨#[]⟩, .slice none 0 0, .slice none 0 0, .int .i64 0, .int .i64 q, .int .i64 2]) (by simp [results, Tryz.results22, go_sem, z0, z1, z2, z3, z4, z5, z6, z7, z8, z9, z10]) rfl ⟨HF.out _, HB9.out⟩
set_option maxRecDepth 100000 in
set_option maxHeartbeats 2000000 in
theorem rvalue_formlo {w : World} {l : List UInt8} {q K : Nat} {d : Int} (_hl : l.length < 100000) (hq : q < l.length) (hx : nb l q < 48) (h45 : nb l q ≠ 45) (h1 : nb l q ≠ 110) (h2 : nb l q ≠ 116) (h3 : nb l q ≠ 102) (h4 : nb l q ≠ 34) (h5 : nb l q ≠ 91) (h6 : nb l q ≠ 123) :
    Calls Tryz.prog 22 #[.string (txt l), .int .i64 q, .int .i64 d] w fun e w' => TellE (HoldF w.heap.size w') l.length (value K (l.drop q)) e ∧ Below w.heap.size w w' := by
  have hs := txt_size l
  have hA := World.alloc_heap_new w (.cells #[.int .i64 0, .bool false, .bool false, .string ⟨#[]⟩, .int .i64 0, .string ⟨#[]⟩, .slice none 0 0, .slice none 0 0, .int .i64 0, .int .i64 0, .int .i64 0] 31)
  have bA : Below w.heap.size w (w.alloc (.cells #[.int .i64 0, .bool false, .bool false, .string ⟨#[]⟩, .int .i64 0, .string ⟨#[]⟩, .slice none 0 0, .slice none 0 0, .int .i64 0, .int .i64 0, .int .i64 0] 31)) := (Below.refl _ w).alloc (Nat.le_refl _) _
  have hlw : w.heap.size < (w.alloc (.cells #[.int .i64 0, .bool false, .bool false, .string ⟨#[]⟩, .int .i64 0, .string ⟨#[]⟩, .slice none 0 0, .slice none 0 0, .int .i64 0, .int .i64 0, .int .i64 0] 31)).heap.size := by simp
  have hb := fun (wx : World) (x : Int) => rbad_any (w := wx) (p := q) (e := x)
  simp only [badV] at hb
  have hno : value K (l.drop q) = .no (l.drop q) 3 := by
    rw [nb_get hq] at hx h45 h1 h2 h3 h4 h5 h6
    have hh : (l.drop q).head? = some l[q] := by rw [List.drop_eq_getElem_cons hq]; rfl
    have hne : ∀ c : UInt8, l[q].toNat ≠ c.toNat → l[q] ≠ c := fun c h e => h (by rw [e])
    refine value_form hh ?_
    unfold begins digit
    have e1 := hne 45 h45
    have e2 := hne 110 h1
    have e3 := hne 116 h2
    have e4 := hne 102 h3
    have e5 := hne 34 h4
    have e6 := hne 91 h5
    have e7 := hne 123 h6
    simp [e1, e2, e3, e4, e5, e6, e7]
    omega
  have HF := Lib.hid fun (C : Value → Val → Prop) => TellE.bad2 (C := C) (n := l.length) hno (show (3 : Int) ≠ 0 by decide) 0 false false ⟨#[]⟩ 0 ⟨#[]⟩ none 0 0 none 0 0 0 q
  have g1 : ¬ (l.length : Int) ≤ (q : Int) := by omega
  have g2 : decide (l.length ≤ q) = false := decide_eq_false (by omega)
  have hix := idx hq
  have d1 : decide (48 ≤ nb l q) = false := decide_eq_false (by omega)
  have d1' : decide ((48 : Int) ≤ ((nb l q : Nat) : Int)) = false := decide_eq_false (by omega)
  have e45 : (((nb l q : Nat) : Int) == 45) = false := by simp; omega
  have n110 : (((nb l q : Nat) : Int) != 110) = true := by simp; omega
  have n116 : (((nb l q : Nat) : Int) != 116) = true := by simp; omega
  have n102 : (((nb l q : Nat) : Int) != 102) = true := by simp; omega
  have n34 : (((nb l q : Nat) : Int) != 34) = true := by simp; omega
  have n91 : (((nb l q : Nat) : Int) != 91) = true := by simp; omega
  have n123 : (((nb l q : Nat) : Int) != 123) = true := by simp; omega
  generalize nb l q = x at *
  have HBD := Lib.hid (hb (w.alloc (.cells #[.int .i64 0, .bool false, .bool false, .string ⟨#[]⟩, .int .i64 0, .string ⟨#[]⟩, .slice none 0 0, .slice none 0 0, .int .i64 0, .int .i64 0, .int .i64 0] 31)) 3)
  have HA := Lib.hid hA
  have HBA := Lib.hid bA
  clear hno hb hA bA
  go_enter Tryz.func22, Tryz.ntmps22
  go_wp2_with fail
  refine HBD.out.mono ?_
  rintro e w2 ⟨rfl, k2⟩
  have hgot := (k2.block _ (lt_of_heap HA.out)).trans HA.out
  have hbel := HBA.out.trans (k2.mono HBA.out.size)
  clear k2
  have h9 := set11 hgot (.int .i64 0) (.bool false) (.bool false) (.string ⟨#[]⟩) (.int .i64 0) (.string ⟨#[]⟩) (.slice none 0 0) (.slice none 0 0) (.int .i64 0) (.int .i64 q) (.int .i64 3)
  have b9 := below11 hbel (Nat.le_refl _) (.int .i64 0) (.bool false) (.bool false) (.string ⟨#[]⟩) (.int .i64 0) (.string ⟨#[]⟩) (.slice none 0 0) (.slice none 0 0) (.int .i64 0) (.int .i64 q) (.int .i64 3)
  obtain ⟨z0, z1, z2, z3, z4, z5, z6, z7, z8, z9, z10⟩ := eleven h9
  obtain ⟨y0, y1, y2, y3, y4, y5, y6, y7, y8, y9, y10⟩ := eleven hgot
  have qf := free_of hgot
  have HB9 := Lib.hid b9
  clear h9 b9
  go_wp2_with fail
  refine bodyPost_ret (v := .agg #[.int .i64 0, .bool false, .bool false, .string ⟨#[]⟩, .int .i64 0, .string ⟨#[]⟩, .slice none 0 0, .slice none 0 0, .int .i64 0, .int .i64 q, .int .i64 3]) (by simp [results, Tryz.results22, go_sem, z0, z1, z2, z3, z4, z5, z6, z7, z8, z9, z10]) rfl ⟨HF.out _, HB9.out⟩
set_option maxRecDepth 100000 in
set_option maxHeartbeats 2000000 in
theorem rvalue_formhi {w : World} {l : List UInt8} {q K : Nat} {d : Int} (_hl : l.length < 100000) (hq : q < l.length) (hx : 57 < nb l q) (h45 : nb l q ≠ 45) (h1 : nb l q ≠ 110) (h2 : nb l q ≠ 116) (h3 : nb l q ≠ 102) (h4 : nb l q ≠ 34) (h5 : nb l q ≠ 91) (h6 : nb l q ≠ 123) :
    Calls Tryz.prog 22 #[.string (txt l), .int .i64 q, .int .i64 d] w fun e w' => TellE (HoldF w.heap.size w') l.length (value K (l.drop q)) e ∧ Below w.heap.size w w' := by
  have hs := txt_size l
  have hA := World.alloc_heap_new w (.cells #[.int .i64 0, .bool false, .bool false, .string ⟨#[]⟩, .int .i64 0, .string ⟨#[]⟩, .slice none 0 0, .slice none 0 0, .int .i64 0, .int .i64 0, .int .i64 0] 31)
  have bA : Below w.heap.size w (w.alloc (.cells #[.int .i64 0, .bool false, .bool false, .string ⟨#[]⟩, .int .i64 0, .string ⟨#[]⟩, .slice none 0 0, .slice none 0 0, .int .i64 0, .int .i64 0, .int .i64 0] 31)) := (Below.refl _ w).alloc (Nat.le_refl _) _
  have hlw : w.heap.size < (w.alloc (.cells #[.int .i64 0, .bool false, .bool false, .string ⟨#[]⟩, .int .i64 0, .string ⟨#[]⟩, .slice none 0 0, .slice none 0 0, .int .i64 0, .int .i64 0, .int .i64 0] 31)).heap.size := by simp
  have hb := fun (wx : World) (x : Int) => rbad_any (w := wx) (p := q) (e := x)
  simp only [badV] at hb
  have hno : value K (l.drop q) = .no (l.drop q) 3 := by
    rw [nb_get hq] at hx h45 h1 h2 h3 h4 h5 h6
    have hh : (l.drop q).head? = some l[q] := by rw [List.drop_eq_getElem_cons hq]; rfl
    have hne : ∀ c : UInt8, l[q].toNat ≠ c.toNat → l[q] ≠ c := fun c h e => h (by rw [e])
    refine value_form hh ?_
    unfold begins digit
    have e1 := hne 45 h45
    have e2 := hne 110 h1
    have e3 := hne 116 h2
    have e4 := hne 102 h3
    have e5 := hne 34 h4
    have e6 := hne 91 h5
    have e7 := hne 123 h6
    simp [e1, e2, e3, e4, e5, e6, e7]
    omega
  have HF := Lib.hid fun (C : Value → Val → Prop) => TellE.bad2 (C := C) (n := l.length) hno (show (3 : Int) ≠ 0 by decide) 0 false false ⟨#[]⟩ 0 ⟨#[]⟩ none 0 0 none 0 0 0 q
  have g1 : ¬ (l.length : Int) ≤ (q : Int) := by omega
  have g2 : decide (l.length ≤ q) = false := decide_eq_false (by omega)
  have hix := idx hq
  have d1 : decide (48 ≤ nb l q) = true := decide_eq_true (by omega)
  have d1' : (48 : Int) ≤ ((nb l q : Nat) : Int) := by omega
  have d2 : decide (nb l q ≤ 57) = false := decide_eq_false (by omega)
  have d2' : decide (((nb l q : Nat) : Int) ≤ (57 : Int)) = false := decide_eq_false (by omega)
  have e45 : (((nb l q : Nat) : Int) == 45) = false := by simp; omega
  have n110 : (((nb l q : Nat) : Int) != 110) = true := by simp; omega
  have n116 : (((nb l q : Nat) : Int) != 116) = true := by simp; omega
  have n102 : (((nb l q : Nat) : Int) != 102) = true := by simp; omega
  have n34 : (((nb l q : Nat) : Int) != 34) = true := by simp; omega
  have n91 : (((nb l q : Nat) : Int) != 91) = true := by simp; omega
  have n123 : (((nb l q : Nat) : Int) != 123) = true := by simp; omega
  generalize nb l q = x at *
  have HBD := Lib.hid (hb (w.alloc (.cells #[.int .i64 0, .bool false, .bool false, .string ⟨#[]⟩, .int .i64 0, .string ⟨#[]⟩, .slice none 0 0, .slice none 0 0, .int .i64 0, .int .i64 0, .int .i64 0] 31)) 3)
  have HA := Lib.hid hA
  have HBA := Lib.hid bA
  clear hno hb hA bA
  go_enter Tryz.func22, Tryz.ntmps22
  go_wp2_with fail
  refine HBD.out.mono ?_
  rintro e w2 ⟨rfl, k2⟩
  have hgot := (k2.block _ (lt_of_heap HA.out)).trans HA.out
  have hbel := HBA.out.trans (k2.mono HBA.out.size)
  clear k2
  have h9 := set11 hgot (.int .i64 0) (.bool false) (.bool false) (.string ⟨#[]⟩) (.int .i64 0) (.string ⟨#[]⟩) (.slice none 0 0) (.slice none 0 0) (.int .i64 0) (.int .i64 q) (.int .i64 3)
  have b9 := below11 hbel (Nat.le_refl _) (.int .i64 0) (.bool false) (.bool false) (.string ⟨#[]⟩) (.int .i64 0) (.string ⟨#[]⟩) (.slice none 0 0) (.slice none 0 0) (.int .i64 0) (.int .i64 q) (.int .i64 3)
  obtain ⟨z0, z1, z2, z3, z4, z5, z6, z7, z8, z9, z10⟩ := eleven h9
  obtain ⟨y0, y1, y2, y3, y4, y5, y6, y7, y8, y9, y10⟩ := eleven hgot
  have qf := free_of hgot
  have HB9 := Lib.hid b9
  clear h9 b9
  go_wp2_with fail
  refine bodyPost_ret (v := .agg #[.int .i64 0, .bool false, .bool false, .string ⟨#[]⟩, .int .i64 0, .string ⟨#[]⟩, .slice none 0 0, .slice none 0 0, .int .i64 0, .int .i64 q, .int .i64 3]) (by simp [results, Tryz.results22, go_sem, z0, z1, z2, z3, z4, z5, z6, z7, z8, z9, z10]) rfl ⟨HF.out _, HB9.out⟩
set_option maxRecDepth 100000 in
set_option maxHeartbeats 2000000 in
theorem rvalue_deepn {w : World} {l : List UInt8} {q : Nat} {d : Int} (_hl : l.length < 100000) (hq : q < l.length) (hx : nb l q = 110) (hd : 64 < d) :
    Calls Tryz.prog 22 #[.string (txt l), .int .i64 q, .int .i64 d] w fun e w' => TellE (HoldF w.heap.size w') l.length (value 0 (l.drop q)) e ∧ Below w.heap.size w w' := by
  have hs := txt_size l
  have hA := World.alloc_heap_new w (.cells #[.int .i64 0, .bool false, .bool false, .string ⟨#[]⟩, .int .i64 0, .string ⟨#[]⟩, .slice none 0 0, .slice none 0 0, .int .i64 0, .int .i64 0, .int .i64 0] 31)
  have bA : Below w.heap.size w (w.alloc (.cells #[.int .i64 0, .bool false, .bool false, .string ⟨#[]⟩, .int .i64 0, .string ⟨#[]⟩, .slice none 0 0, .slice none 0 0, .int .i64 0, .int .i64 0, .int .i64 0] 31)) := (Below.refl _ w).alloc (Nat.le_refl _) _
  have hlw : w.heap.size < (w.alloc (.cells #[.int .i64 0, .bool false, .bool false, .string ⟨#[]⟩, .int .i64 0, .string ⟨#[]⟩, .slice none 0 0, .slice none 0 0, .int .i64 0, .int .i64 0, .int .i64 0] 31)).heap.size := by simp
  have hb := fun (wx : World) (x : Int) => rbad_any (w := wx) (p := q) (e := x)
  simp only [badV] at hb
  have hno : value 0 (l.drop q) = .no (l.drop q) 5 := value_deep (head_of 110 (by decide) hx) (by decide)
  have HF := Lib.hid fun (C : Value → Val → Prop) => TellE.bad2 (C := C) (n := l.length) hno (show (5 : Int) ≠ 0 by decide) 0 false false ⟨#[]⟩ 0 ⟨#[]⟩ none 0 0 none 0 0 0 q
  have g1 : ¬ (l.length : Int) ≤ (q : Int) := by omega
  have g2 : decide (l.length ≤ q) = false := decide_eq_false (by omega)
  have hix := idx hq
  rw [hx] at hix
  have hdd : decide ((64 : Int) < d) = true := decide_eq_true hd
  have HBD := Lib.hid (hb (w.alloc (.cells #[.int .i64 0, .bool false, .bool false, .string ⟨#[]⟩, .int .i64 0, .string ⟨#[]⟩, .slice none 0 0, .slice none 0 0, .int .i64 0, .int .i64 0, .int .i64 0] 31)) 5)
  have HA := Lib.hid hA
  have HBA := Lib.hid bA
  clear hno hb hA bA
  go_enter Tryz.func22, Tryz.ntmps22
  go_wp2_with fail
  refine HBD.out.mono ?_
  rintro e w2 ⟨rfl, k2⟩
  have hgot := (k2.block _ (lt_of_heap HA.out)).trans HA.out
  have hbel := HBA.out.trans (k2.mono HBA.out.size)
  clear k2
  have h9 := set11 hgot (.int .i64 0) (.bool false) (.bool false) (.string ⟨#[]⟩) (.int .i64 0) (.string ⟨#[]⟩) (.slice none 0 0) (.slice none 0 0) (.int .i64 0) (.int .i64 q) (.int .i64 5)
  have b9 := below11 hbel (Nat.le_refl _) (.int .i64 0) (.bool false) (.bool false) (.string ⟨#[]⟩) (.int .i64 0) (.string ⟨#[]⟩) (.slice none 0 0) (.slice none 0 0) (.int .i64 0) (.int .i64 q) (.int .i64 5)
  obtain ⟨z0, z1, z2, z3, z4, z5, z6, z7, z8, z9, z10⟩ := eleven h9
  obtain ⟨y0, y1, y2, y3, y4, y5, y6, y7, y8, y9, y10⟩ := eleven hgot
  have qf := free_of hgot
  have HB9 := Lib.hid b9
  clear h9 b9
  go_wp2_with fail
  refine bodyPost_ret (v := .agg #[.int .i64 0, .bool false, .bool false, .string ⟨#[]⟩, .int .i64 0, .string ⟨#[]⟩, .slice none 0 0, .slice none 0 0, .int .i64 0, .int .i64 q, .int .i64 5]) (by simp [results, Tryz.results22, go_sem, z0, z1, z2, z3, z4, z5, z6, z7, z8, z9, z10]) rfl ⟨HF.out _, HB9.out⟩
set_option maxRecDepth 100000 in
set_option maxHeartbeats 2000000 in
theorem rvalue_deept {w : World} {l : List UInt8} {q : Nat} {d : Int} (_hl : l.length < 100000) (hq : q < l.length) (hx : nb l q = 116) (hd : 64 < d) :
    Calls Tryz.prog 22 #[.string (txt l), .int .i64 q, .int .i64 d] w fun e w' => TellE (HoldF w.heap.size w') l.length (value 0 (l.drop q)) e ∧ Below w.heap.size w w' := by
  have hs := txt_size l
  have hA := World.alloc_heap_new w (.cells #[.int .i64 0, .bool false, .bool false, .string ⟨#[]⟩, .int .i64 0, .string ⟨#[]⟩, .slice none 0 0, .slice none 0 0, .int .i64 0, .int .i64 0, .int .i64 0] 31)
  have bA : Below w.heap.size w (w.alloc (.cells #[.int .i64 0, .bool false, .bool false, .string ⟨#[]⟩, .int .i64 0, .string ⟨#[]⟩, .slice none 0 0, .slice none 0 0, .int .i64 0, .int .i64 0, .int .i64 0] 31)) := (Below.refl _ w).alloc (Nat.le_refl _) _
  have hlw : w.heap.size < (w.alloc (.cells #[.int .i64 0, .bool false, .bool false, .string ⟨#[]⟩, .int .i64 0, .string ⟨#[]⟩, .slice none 0 0, .slice none 0 0, .int .i64 0, .int .i64 0, .int .i64 0] 31)).heap.size := by simp
  have hb := fun (wx : World) (x : Int) => rbad_any (w := wx) (p := q) (e := x)
  simp only [badV] at hb
  have hno : value 0 (l.drop q) = .no (l.drop q) 5 := value_deep (head_of 116 (by decide) hx) (by decide)
  have HF := Lib.hid fun (C : Value → Val → Prop) => TellE.bad2 (C := C) (n := l.length) hno (show (5 : Int) ≠ 0 by decide) 0 false false ⟨#[]⟩ 0 ⟨#[]⟩ none 0 0 none 0 0 0 q
  have g1 : ¬ (l.length : Int) ≤ (q : Int) := by omega
  have g2 : decide (l.length ≤ q) = false := decide_eq_false (by omega)
  have hix := idx hq
  rw [hx] at hix
  have hdd : decide ((64 : Int) < d) = true := decide_eq_true hd
  have HBD := Lib.hid (hb (w.alloc (.cells #[.int .i64 0, .bool false, .bool false, .string ⟨#[]⟩, .int .i64 0, .string ⟨#[]⟩, .slice none 0 0, .slice none 0 0, .int .i64 0, .int .i64 0, .int .i64 0] 31)) 5)
  have HA := Lib.hid hA
  have HBA := Lib.hid bA
  clear hno hb hA bA
  go_enter Tryz.func22, Tryz.ntmps22
  go_wp2_with fail
  refine HBD.out.mono ?_
  rintro e w2 ⟨rfl, k2⟩
  have hgot := (k2.block _ (lt_of_heap HA.out)).trans HA.out
  have hbel := HBA.out.trans (k2.mono HBA.out.size)
  clear k2
  have h9 := set11 hgot (.int .i64 0) (.bool false) (.bool false) (.string ⟨#[]⟩) (.int .i64 0) (.string ⟨#[]⟩) (.slice none 0 0) (.slice none 0 0) (.int .i64 0) (.int .i64 q) (.int .i64 5)
  have b9 := below11 hbel (Nat.le_refl _) (.int .i64 0) (.bool false) (.bool false) (.string ⟨#[]⟩) (.int .i64 0) (.string ⟨#[]⟩) (.slice none 0 0) (.slice none 0 0) (.int .i64 0) (.int .i64 q) (.int .i64 5)
  obtain ⟨z0, z1, z2, z3, z4, z5, z6, z7, z8, z9, z10⟩ := eleven h9
  obtain ⟨y0, y1, y2, y3, y4, y5, y6, y7, y8, y9, y10⟩ := eleven hgot
  have qf := free_of hgot
  have HB9 := Lib.hid b9
  clear h9 b9
  go_wp2_with fail
  refine bodyPost_ret (v := .agg #[.int .i64 0, .bool false, .bool false, .string ⟨#[]⟩, .int .i64 0, .string ⟨#[]⟩, .slice none 0 0, .slice none 0 0, .int .i64 0, .int .i64 q, .int .i64 5]) (by simp [results, Tryz.results22, go_sem, z0, z1, z2, z3, z4, z5, z6, z7, z8, z9, z10]) rfl ⟨HF.out _, HB9.out⟩
set_option maxRecDepth 100000 in
set_option maxHeartbeats 2000000 in
theorem rvalue_deepf {w : World} {l : List UInt8} {q : Nat} {d : Int} (_hl : l.length < 100000) (hq : q < l.length) (hx : nb l q = 102) (hd : 64 < d) :
    Calls Tryz.prog 22 #[.string (txt l), .int .i64 q, .int .i64 d] w fun e w' => TellE (HoldF w.heap.size w') l.length (value 0 (l.drop q)) e ∧ Below w.heap.size w w' := by
  have hs := txt_size l
  have hA := World.alloc_heap_new w (.cells #[.int .i64 0, .bool false, .bool false, .string ⟨#[]⟩, .int .i64 0, .string ⟨#[]⟩, .slice none 0 0, .slice none 0 0, .int .i64 0, .int .i64 0, .int .i64 0] 31)
  have bA : Below w.heap.size w (w.alloc (.cells #[.int .i64 0, .bool false, .bool false, .string ⟨#[]⟩, .int .i64 0, .string ⟨#[]⟩, .slice none 0 0, .slice none 0 0, .int .i64 0, .int .i64 0, .int .i64 0] 31)) := (Below.refl _ w).alloc (Nat.le_refl _) _
  have hlw : w.heap.size < (w.alloc (.cells #[.int .i64 0, .bool false, .bool false, .string ⟨#[]⟩, .int .i64 0, .string ⟨#[]⟩, .slice none 0 0, .slice none 0 0, .int .i64 0, .int .i64 0, .int .i64 0] 31)).heap.size := by simp
  have hb := fun (wx : World) (x : Int) => rbad_any (w := wx) (p := q) (e := x)
  simp only [badV] at hb
  have hno : value 0 (l.drop q) = .no (l.drop q) 5 := value_deep (head_of 102 (by decide) hx) (by decide)
  have HF := Lib.hid fun (C : Value → Val → Prop) => TellE.bad2 (C := C) (n := l.length) hno (show (5 : Int) ≠ 0 by decide) 0 false false ⟨#[]⟩ 0 ⟨#[]⟩ none 0 0 none 0 0 0 q
  have g1 : ¬ (l.length : Int) ≤ (q : Int) := by omega
  have g2 : decide (l.length ≤ q) = false := decide_eq_false (by omega)
  have hix := idx hq
  rw [hx] at hix
  have hdd : decide ((64 : Int) < d) = true := decide_eq_true hd
  have HBD := Lib.hid (hb (w.alloc (.cells #[.int .i64 0, .bool false, .bool false, .string ⟨#[]⟩, .int .i64 0, .string ⟨#[]⟩, .slice none 0 0, .slice none 0 0, .int .i64 0, .int .i64 0, .int .i64 0] 31)) 5)
  have HA := Lib.hid hA
  have HBA := Lib.hid bA
  clear hno hb hA bA
  go_enter Tryz.func22, Tryz.ntmps22
  go_wp2_with fail
  refine HBD.out.mono ?_
  rintro e w2 ⟨rfl, k2⟩
  have hgot := (k2.block _ (lt_of_heap HA.out)).trans HA.out
  have hbel := HBA.out.trans (k2.mono HBA.out.size)
  clear k2
  have h9 := set11 hgot (.int .i64 0) (.bool false) (.bool false) (.string ⟨#[]⟩) (.int .i64 0) (.string ⟨#[]⟩) (.slice none 0 0) (.slice none 0 0) (.int .i64 0) (.int .i64 q) (.int .i64 5)
  have b9 := below11 hbel (Nat.le_refl _) (.int .i64 0) (.bool false) (.bool false) (.string ⟨#[]⟩) (.int .i64 0) (.string ⟨#[]⟩) (.slice none 0 0) (.slice none 0 0) (.int .i64 0) (.int .i64 q) (.int .i64 5)
  obtain ⟨z0, z1, z2, z3, z4, z5, z6, z7, z8, z9, z10⟩ := eleven h9
  obtain ⟨y0, y1, y2, y3, y4, y5, y6, y7, y8, y9, y10⟩ := eleven hgot
  have qf := free_of hgot
  have HB9 := Lib.hid b9
  clear h9 b9
  go_wp2_with fail
  refine bodyPost_ret (v := .agg #[.int .i64 0, .bool false, .bool false, .string ⟨#[]⟩, .int .i64 0, .string ⟨#[]⟩, .slice none 0 0, .slice none 0 0, .int .i64 0, .int .i64 q, .int .i64 5]) (by simp [results, Tryz.results22, go_sem, z0, z1, z2, z3, z4, z5, z6, z7, z8, z9, z10]) rfl ⟨HF.out _, HB9.out⟩
set_option maxRecDepth 100000 in
set_option maxHeartbeats 2000000 in
theorem rvalue_deepq {w : World} {l : List UInt8} {q : Nat} {d : Int} (_hl : l.length < 100000) (hq : q < l.length) (hx : nb l q = 34) (hd : 64 < d) :
    Calls Tryz.prog 22 #[.string (txt l), .int .i64 q, .int .i64 d] w fun e w' => TellE (HoldF w.heap.size w') l.length (value 0 (l.drop q)) e ∧ Below w.heap.size w w' := by
  have hs := txt_size l
  have hA := World.alloc_heap_new w (.cells #[.int .i64 0, .bool false, .bool false, .string ⟨#[]⟩, .int .i64 0, .string ⟨#[]⟩, .slice none 0 0, .slice none 0 0, .int .i64 0, .int .i64 0, .int .i64 0] 31)
  have bA : Below w.heap.size w (w.alloc (.cells #[.int .i64 0, .bool false, .bool false, .string ⟨#[]⟩, .int .i64 0, .string ⟨#[]⟩, .slice none 0 0, .slice none 0 0, .int .i64 0, .int .i64 0, .int .i64 0] 31)) := (Below.refl _ w).alloc (Nat.le_refl _) _
  have hlw : w.heap.size < (w.alloc (.cells #[.int .i64 0, .bool false, .bool false, .string ⟨#[]⟩, .int .i64 0, .string ⟨#[]⟩, .slice none 0 0, .slice none 0 0, .int .i64 0, .int .i64 0, .int .i64 0] 31)).heap.size := by simp
  have hb := fun (wx : World) (x : Int) => rbad_any (w := wx) (p := q) (e := x)
  simp only [badV] at hb
  have hno : value 0 (l.drop q) = .no (l.drop q) 5 := value_deep (head_of 34 (by decide) hx) (by decide)
  have HF := Lib.hid fun (C : Value → Val → Prop) => TellE.bad2 (C := C) (n := l.length) hno (show (5 : Int) ≠ 0 by decide) 0 false false ⟨#[]⟩ 0 ⟨#[]⟩ none 0 0 none 0 0 0 q
  have g1 : ¬ (l.length : Int) ≤ (q : Int) := by omega
  have g2 : decide (l.length ≤ q) = false := decide_eq_false (by omega)
  have hix := idx hq
  rw [hx] at hix
  have hdd : decide ((64 : Int) < d) = true := decide_eq_true hd
  have HBD := Lib.hid (hb (w.alloc (.cells #[.int .i64 0, .bool false, .bool false, .string ⟨#[]⟩, .int .i64 0, .string ⟨#[]⟩, .slice none 0 0, .slice none 0 0, .int .i64 0, .int .i64 0, .int .i64 0] 31)) 5)
  have HA := Lib.hid hA
  have HBA := Lib.hid bA
  clear hno hb hA bA
  go_enter Tryz.func22, Tryz.ntmps22
  go_wp2_with fail
  refine HBD.out.mono ?_
  rintro e w2 ⟨rfl, k2⟩
  have hgot := (k2.block _ (lt_of_heap HA.out)).trans HA.out
  have hbel := HBA.out.trans (k2.mono HBA.out.size)
  clear k2
  have h9 := set11 hgot (.int .i64 0) (.bool false) (.bool false) (.string ⟨#[]⟩) (.int .i64 0) (.string ⟨#[]⟩) (.slice none 0 0) (.slice none 0 0) (.int .i64 0) (.int .i64 q) (.int .i64 5)
  have b9 := below11 hbel (Nat.le_refl _) (.int .i64 0) (.bool false) (.bool false) (.string ⟨#[]⟩) (.int .i64 0) (.string ⟨#[]⟩) (.slice none 0 0) (.slice none 0 0) (.int .i64 0) (.int .i64 q) (.int .i64 5)
  obtain ⟨z0, z1, z2, z3, z4, z5, z6, z7, z8, z9, z10⟩ := eleven h9
  obtain ⟨y0, y1, y2, y3, y4, y5, y6, y7, y8, y9, y10⟩ := eleven hgot
  have qf := free_of hgot
  have HB9 := Lib.hid b9
  clear h9 b9
  go_wp2_with fail
  refine bodyPost_ret (v := .agg #[.int .i64 0, .bool false, .bool false, .string ⟨#[]⟩, .int .i64 0, .string ⟨#[]⟩, .slice none 0 0, .slice none 0 0, .int .i64 0, .int .i64 q, .int .i64 5]) (by simp [results, Tryz.results22, go_sem, z0, z1, z2, z3, z4, z5, z6, z7, z8, z9, z10]) rfl ⟨HF.out _, HB9.out⟩
set_option maxRecDepth 100000 in
set_option maxHeartbeats 2000000 in
theorem rvalue_deepl {w : World} {l : List UInt8} {q : Nat} {d : Int} (_hl : l.length < 100000) (hq : q < l.length) (hx : nb l q = 91) (hd : 64 < d) :
    Calls Tryz.prog 22 #[.string (txt l), .int .i64 q, .int .i64 d] w fun e w' => TellE (HoldF w.heap.size w') l.length (value 0 (l.drop q)) e ∧ Below w.heap.size w w' := by
  have hs := txt_size l
  have hA := World.alloc_heap_new w (.cells #[.int .i64 0, .bool false, .bool false, .string ⟨#[]⟩, .int .i64 0, .string ⟨#[]⟩, .slice none 0 0, .slice none 0 0, .int .i64 0, .int .i64 0, .int .i64 0] 31)
  have bA : Below w.heap.size w (w.alloc (.cells #[.int .i64 0, .bool false, .bool false, .string ⟨#[]⟩, .int .i64 0, .string ⟨#[]⟩, .slice none 0 0, .slice none 0 0, .int .i64 0, .int .i64 0, .int .i64 0] 31)) := (Below.refl _ w).alloc (Nat.le_refl _) _
  have hlw : w.heap.size < (w.alloc (.cells #[.int .i64 0, .bool false, .bool false, .string ⟨#[]⟩, .int .i64 0, .string ⟨#[]⟩, .slice none 0 0, .slice none 0 0, .int .i64 0, .int .i64 0, .int .i64 0] 31)).heap.size := by simp
  have hb := fun (wx : World) (x : Int) => rbad_any (w := wx) (p := q) (e := x)
  simp only [badV] at hb
  have hno : value 0 (l.drop q) = .no (l.drop q) 5 := value_deep (head_of 91 (by decide) hx) (by decide)
  have HF := Lib.hid fun (C : Value → Val → Prop) => TellE.bad2 (C := C) (n := l.length) hno (show (5 : Int) ≠ 0 by decide) 0 false false ⟨#[]⟩ 0 ⟨#[]⟩ none 0 0 none 0 0 0 q
  have g1 : ¬ (l.length : Int) ≤ (q : Int) := by omega
  have g2 : decide (l.length ≤ q) = false := decide_eq_false (by omega)
  have hix := idx hq
  rw [hx] at hix
  have hdd : decide ((64 : Int) < d) = true := decide_eq_true hd
  have HBD := Lib.hid (hb (w.alloc (.cells #[.int .i64 0, .bool false, .bool false, .string ⟨#[]⟩, .int .i64 0, .string ⟨#[]⟩, .slice none 0 0, .slice none 0 0, .int .i64 0, .int .i64 0, .int .i64 0] 31)) 5)
  have HA := Lib.hid hA
  have HBA := Lib.hid bA
  clear hno hb hA bA
  go_enter Tryz.func22, Tryz.ntmps22
  go_wp2_with fail
  refine HBD.out.mono ?_
  rintro e w2 ⟨rfl, k2⟩
  have hgot := (k2.block _ (lt_of_heap HA.out)).trans HA.out
  have hbel := HBA.out.trans (k2.mono HBA.out.size)
  clear k2
  have h9 := set11 hgot (.int .i64 0) (.bool false) (.bool false) (.string ⟨#[]⟩) (.int .i64 0) (.string ⟨#[]⟩) (.slice none 0 0) (.slice none 0 0) (.int .i64 0) (.int .i64 q) (.int .i64 5)
  have b9 := below11 hbel (Nat.le_refl _) (.int .i64 0) (.bool false) (.bool false) (.string ⟨#[]⟩) (.int .i64 0) (.string ⟨#[]⟩) (.slice none 0 0) (.slice none 0 0) (.int .i64 0) (.int .i64 q) (.int .i64 5)
  obtain ⟨z0, z1, z2, z3, z4, z5, z6, z7, z8, z9, z10⟩ := eleven h9
  obtain ⟨y0, y1, y2, y3, y4, y5, y6, y7, y8, y9, y10⟩ := eleven hgot
  have qf := free_of hgot
  have HB9 := Lib.hid b9
  clear h9 b9
  go_wp2_with fail
  refine bodyPost_ret (v := .agg #[.int .i64 0, .bool false, .bool false, .string ⟨#[]⟩, .int .i64 0, .string ⟨#[]⟩, .slice none 0 0, .slice none 0 0, .int .i64 0, .int .i64 q, .int .i64 5]) (by simp [results, Tryz.results22, go_sem, z0, z1, z2, z3, z4, z5, z6, z7, z8, z9, z10]) rfl ⟨HF.out _, HB9.out⟩
set_option maxRecDepth 100000 in
set_option maxHeartbeats 2000000 in
theorem rvalue_deepo {w : World} {l : List UInt8} {q : Nat} {d : Int} (_hl : l.length < 100000) (hq : q < l.length) (hx : nb l q = 123) (hd : 64 < d) :
    Calls Tryz.prog 22 #[.string (txt l), .int .i64 q, .int .i64 d] w fun e w' => TellE (HoldF w.heap.size w') l.length (value 0 (l.drop q)) e ∧ Below w.heap.size w w' := by
  have hs := txt_size l
  have hA := World.alloc_heap_new w (.cells #[.int .i64 0, .bool false, .bool false, .string ⟨#[]⟩, .int .i64 0, .string ⟨#[]⟩, .slice none 0 0, .slice none 0 0, .int .i64 0, .int .i64 0, .int .i64 0] 31)
  have bA : Below w.heap.size w (w.alloc (.cells #[.int .i64 0, .bool false, .bool false, .string ⟨#[]⟩, .int .i64 0, .string ⟨#[]⟩, .slice none 0 0, .slice none 0 0, .int .i64 0, .int .i64 0, .int .i64 0] 31)) := (Below.refl _ w).alloc (Nat.le_refl _) _
  have hlw : w.heap.size < (w.alloc (.cells #[.int .i64 0, .bool false, .bool false, .string ⟨#[]⟩, .int .i64 0, .string ⟨#[]⟩, .slice none 0 0, .slice none 0 0, .int .i64 0, .int .i64 0, .int .i64 0] 31)).heap.size := by simp
  have hb := fun (wx : World) (x : Int) => rbad_any (w := wx) (p := q) (e := x)
  simp only [badV] at hb
  have hno : value 0 (l.drop q) = .no (l.drop q) 5 := value_deep (head_of 123 (by decide) hx) (by decide)
  have HF := Lib.hid fun (C : Value → Val → Prop) => TellE.bad2 (C := C) (n := l.length) hno (show (5 : Int) ≠ 0 by decide) 0 false false ⟨#[]⟩ 0 ⟨#[]⟩ none 0 0 none 0 0 0 q
  have g1 : ¬ (l.length : Int) ≤ (q : Int) := by omega
  have g2 : decide (l.length ≤ q) = false := decide_eq_false (by omega)
  have hix := idx hq
  rw [hx] at hix
  have hdd : decide ((64 : Int) < d) = true := decide_eq_true hd
  have HBD := Lib.hid (hb (w.alloc (.cells #[.int .i64 0, .bool false, .bool false, .string ⟨#[]⟩, .int .i64 0, .string ⟨#[]⟩, .slice none 0 0, .slice none 0 0, .int .i64 0, .int .i64 0, .int .i64 0] 31)) 5)
  have HA := Lib.hid hA
  have HBA := Lib.hid bA
  clear hno hb hA bA
  go_enter Tryz.func22, Tryz.ntmps22
  go_wp2_with fail
  refine HBD.out.mono ?_
  rintro e w2 ⟨rfl, k2⟩
  have hgot := (k2.block _ (lt_of_heap HA.out)).trans HA.out
  have hbel := HBA.out.trans (k2.mono HBA.out.size)
  clear k2
  have h9 := set11 hgot (.int .i64 0) (.bool false) (.bool false) (.string ⟨#[]⟩) (.int .i64 0) (.string ⟨#[]⟩) (.slice none 0 0) (.slice none 0 0) (.int .i64 0) (.int .i64 q) (.int .i64 5)
  have b9 := below11 hbel (Nat.le_refl _) (.int .i64 0) (.bool false) (.bool false) (.string ⟨#[]⟩) (.int .i64 0) (.string ⟨#[]⟩) (.slice none 0 0) (.slice none 0 0) (.int .i64 0) (.int .i64 q) (.int .i64 5)
  obtain ⟨z0, z1, z2, z3, z4, z5, z6, z7, z8, z9, z10⟩ := eleven h9
  obtain ⟨y0, y1, y2, y3, y4, y5, y6, y7, y8, y9, y10⟩ := eleven hgot
  have qf := free_of hgot
  have HB9 := Lib.hid b9
  clear h9 b9
  go_wp2_with fail
  refine bodyPost_ret (v := .agg #[.int .i64 0, .bool false, .bool false, .string ⟨#[]⟩, .int .i64 0, .string ⟨#[]⟩, .slice none 0 0, .slice none 0 0, .int .i64 0, .int .i64 q, .int .i64 5]) (by simp [results, Tryz.results22, go_sem, z0, z1, z2, z3, z4, z5, z6, z7, z8, z9, z10]) rfl ⟨HF.out _, HB9.out⟩
set_option maxRecDepth 100000 in
set_option maxHeartbeats 2000000 in
theorem rvalue_deepm {w : World} {l : List UInt8} {q : Nat} {d : Int} (_hl : l.length < 100000) (hq : q < l.length) (hx : nb l q = 45) (hd : 64 < d) :
    Calls Tryz.prog 22 #[.string (txt l), .int .i64 q, .int .i64 d] w fun e w' => TellE (HoldF w.heap.size w') l.length (value 0 (l.drop q)) e ∧ Below w.heap.size w w' := by
  have hs := txt_size l
  have hA := World.alloc_heap_new w (.cells #[.int .i64 0, .bool false, .bool false, .string ⟨#[]⟩, .int .i64 0, .string ⟨#[]⟩, .slice none 0 0, .slice none 0 0, .int .i64 0, .int .i64 0, .int .i64 0] 31)
  have bA : Below w.heap.size w (w.alloc (.cells #[.int .i64 0, .bool false, .bool false, .string ⟨#[]⟩, .int .i64 0, .string ⟨#[]⟩, .slice none 0 0, .slice none 0 0, .int .i64 0, .int .i64 0, .int .i64 0] 31)) := (Below.refl _ w).alloc (Nat.le_refl _) _
  have hlw : w.heap.size < (w.alloc (.cells #[.int .i64 0, .bool false, .bool false, .string ⟨#[]⟩, .int .i64 0, .string ⟨#[]⟩, .slice none 0 0, .slice none 0 0, .int .i64 0, .int .i64 0, .int .i64 0] 31)).heap.size := by simp
  have hb := fun (wx : World) (x : Int) => rbad_any (w := wx) (p := q) (e := x)
  simp only [badV] at hb
  have hno : value 0 (l.drop q) = .no (l.drop q) 5 := value_deep (head_of 45 (by decide) hx) (by decide)
  have HF := Lib.hid fun (C : Value → Val → Prop) => TellE.bad2 (C := C) (n := l.length) hno (show (5 : Int) ≠ 0 by decide) 0 false false ⟨#[]⟩ 0 ⟨#[]⟩ none 0 0 none 0 0 0 q
  have g1 : ¬ (l.length : Int) ≤ (q : Int) := by omega
  have g2 : decide (l.length ≤ q) = false := decide_eq_false (by omega)
  have hix := idx hq
  rw [hx] at hix
  have hdd : decide ((64 : Int) < d) = true := decide_eq_true hd
  have HBD := Lib.hid (hb (w.alloc (.cells #[.int .i64 0, .bool false, .bool false, .string ⟨#[]⟩, .int .i64 0, .string ⟨#[]⟩, .slice none 0 0, .slice none 0 0, .int .i64 0, .int .i64 0, .int .i64 0] 31)) 5)
  have HA := Lib.hid hA
  have HBA := Lib.hid bA
  clear hno hb hA bA
  go_enter Tryz.func22, Tryz.ntmps22
  go_wp2_with fail
  refine HBD.out.mono ?_
  rintro e w2 ⟨rfl, k2⟩
  have hgot := (k2.block _ (lt_of_heap HA.out)).trans HA.out
  have hbel := HBA.out.trans (k2.mono HBA.out.size)
  clear k2
  have h9 := set11 hgot (.int .i64 0) (.bool false) (.bool false) (.string ⟨#[]⟩) (.int .i64 0) (.string ⟨#[]⟩) (.slice none 0 0) (.slice none 0 0) (.int .i64 0) (.int .i64 q) (.int .i64 5)
  have b9 := below11 hbel (Nat.le_refl _) (.int .i64 0) (.bool false) (.bool false) (.string ⟨#[]⟩) (.int .i64 0) (.string ⟨#[]⟩) (.slice none 0 0) (.slice none 0 0) (.int .i64 0) (.int .i64 q) (.int .i64 5)
  obtain ⟨z0, z1, z2, z3, z4, z5, z6, z7, z8, z9, z10⟩ := eleven h9
  obtain ⟨y0, y1, y2, y3, y4, y5, y6, y7, y8, y9, y10⟩ := eleven hgot
  have qf := free_of hgot
  have HB9 := Lib.hid b9
  clear h9 b9
  go_wp2_with fail
  refine bodyPost_ret (v := .agg #[.int .i64 0, .bool false, .bool false, .string ⟨#[]⟩, .int .i64 0, .string ⟨#[]⟩, .slice none 0 0, .slice none 0 0, .int .i64 0, .int .i64 q, .int .i64 5]) (by simp [results, Tryz.results22, go_sem, z0, z1, z2, z3, z4, z5, z6, z7, z8, z9, z10]) rfl ⟨HF.out _, HB9.out⟩
set_option maxRecDepth 100000 in
set_option maxHeartbeats 2000000 in
theorem rvalue_deepd {w : World} {l : List UInt8} {q : Nat} {d : Int} (_hl : l.length < 100000) (hq : q < l.length) (hx1 : 48 ≤ nb l q) (hx2 : nb l q ≤ 57) (hd : 64 < d) :
    Calls Tryz.prog 22 #[.string (txt l), .int .i64 q, .int .i64 d] w fun e w' => TellE (HoldF w.heap.size w') l.length (value 0 (l.drop q)) e ∧ Below w.heap.size w w' := by
  have hs := txt_size l
  have hA := World.alloc_heap_new w (.cells #[.int .i64 0, .bool false, .bool false, .string ⟨#[]⟩, .int .i64 0, .string ⟨#[]⟩, .slice none 0 0, .slice none 0 0, .int .i64 0, .int .i64 0, .int .i64 0] 31)
  have bA : Below w.heap.size w (w.alloc (.cells #[.int .i64 0, .bool false, .bool false, .string ⟨#[]⟩, .int .i64 0, .string ⟨#[]⟩, .slice none 0 0, .slice none 0 0, .int .i64 0, .int .i64 0, .int .i64 0] 31)) := (Below.refl _ w).alloc (Nat.le_refl _) _
  have hlw : w.heap.size < (w.alloc (.cells #[.int .i64 0, .bool false, .bool false, .string ⟨#[]⟩, .int .i64 0, .string ⟨#[]⟩, .slice none 0 0, .slice none 0 0, .int .i64 0, .int .i64 0, .int .i64 0] 31)).heap.size := by simp
  have hb := fun (wx : World) (x : Int) => rbad_any (w := wx) (p := q) (e := x)
  simp only [badV] at hb
  have hno : value 0 (l.drop q) = .no (l.drop q) 5 := by
    rw [nb_get hq] at hx1 hx2
    have hh : (l.drop q).head? = some l[q] := by rw [List.drop_eq_getElem_cons hq]; rfl
    exact value_deep hh (begins_digit (by unfold digit; simp; omega))
  have HF := Lib.hid fun (C : Value → Val → Prop) => TellE.bad2 (C := C) (n := l.length) hno (show (5 : Int) ≠ 0 by decide) 0 false false ⟨#[]⟩ 0 ⟨#[]⟩ none 0 0 none 0 0 0 q
  have g1 : ¬ (l.length : Int) ≤ (q : Int) := by omega
  have g2 : decide (l.length ≤ q) = false := decide_eq_false (by omega)
  have hix := idx hq
  have hdd : decide ((64 : Int) < d) = true := decide_eq_true hd
  have d1 : decide (48 ≤ nb l q) = true := decide_eq_true (by omega)
  have d1' : (48 : Int) ≤ ((nb l q : Nat) : Int) := by omega
  have d2 : decide (nb l q ≤ 57) = true := decide_eq_true (by omega)
  have d2' : ((nb l q : Nat) : Int) ≤ (57 : Int) := by omega
  have n110 : (((nb l q : Nat) : Int) != 110) = true := by simp; omega
  have n116 : (((nb l q : Nat) : Int) != 116) = true := by simp; omega
  have n102 : (((nb l q : Nat) : Int) != 102) = true := by simp; omega
  have n34 : (((nb l q : Nat) : Int) != 34) = true := by simp; omega
  have n91 : (((nb l q : Nat) : Int) != 91) = true := by simp; omega
  have n123 : (((nb l q : Nat) : Int) != 123) = true := by simp; omega
  generalize nb l q = x at *
  have HBD := Lib.hid (hb (w.alloc (.cells #[.int .i64 0, .bool false, .bool false, .string ⟨#[]⟩, .int .i64 0, .string ⟨#[]⟩, .slice none 0 0, .slice none 0 0, .int .i64 0, .int .i64 0, .int .i64 0] 31)) 5)
  have HA := Lib.hid hA
  have HBA := Lib.hid bA
  clear hno hb hA bA
  go_enter Tryz.func22, Tryz.ntmps22
  go_wp2_with fail
  refine HBD.out.mono ?_
  rintro e w2 ⟨rfl, k2⟩
  have hgot := (k2.block _ (lt_of_heap HA.out)).trans HA.out
  have hbel := HBA.out.trans (k2.mono HBA.out.size)
  clear k2
  have h9 := set11 hgot (.int .i64 0) (.bool false) (.bool false) (.string ⟨#[]⟩) (.int .i64 0) (.string ⟨#[]⟩) (.slice none 0 0) (.slice none 0 0) (.int .i64 0) (.int .i64 q) (.int .i64 5)
  have b9 := below11 hbel (Nat.le_refl _) (.int .i64 0) (.bool false) (.bool false) (.string ⟨#[]⟩) (.int .i64 0) (.string ⟨#[]⟩) (.slice none 0 0) (.slice none 0 0) (.int .i64 0) (.int .i64 q) (.int .i64 5)
  obtain ⟨z0, z1, z2, z3, z4, z5, z6, z7, z8, z9, z10⟩ := eleven h9
  obtain ⟨y0, y1, y2, y3, y4, y5, y6, y7, y8, y9, y10⟩ := eleven hgot
  have qf := free_of hgot
  have HB9 := Lib.hid b9
  clear h9 b9
  go_wp2_with fail
  refine bodyPost_ret (v := .agg #[.int .i64 0, .bool false, .bool false, .string ⟨#[]⟩, .int .i64 0, .string ⟨#[]⟩, .slice none 0 0, .slice none 0 0, .int .i64 0, .int .i64 q, .int .i64 5]) (by simp [results, Tryz.results22, go_sem, z0, z1, z2, z3, z4, z5, z6, z7, z8, z9, z10]) rfl ⟨HF.out _, HB9.out⟩
set_option maxRecDepth 100000 in
set_option maxHeartbeats 2000000 in
theorem rvalue_num {w : World} {l : List UInt8} {q K : Nat} {d : Int} (hl : l.length < 100000) (hq : q < l.length) (hx1 : 48 ≤ nb l q) (hx2 : nb l q ≤ 57) (hd : d ≤ 64) :
    Calls Tryz.prog 22 #[.string (txt l), .int .i64 q, .int .i64 d] w fun e w' => TellE (HoldF w.heap.size w') l.length (value (K + 1) (l.drop q)) e ∧ Below w.heap.size w w' := by
  have hs := txt_size l
  have hA := World.alloc_heap_new w (.cells #[.int .i64 0, .bool false, .bool false, .string ⟨#[]⟩, .int .i64 0, .string ⟨#[]⟩, .slice none 0 0, .slice none 0 0, .int .i64 0, .int .i64 0, .int .i64 0] 31)
  have bA : Below w.heap.size w (w.alloc (.cells #[.int .i64 0, .bool false, .bool false, .string ⟨#[]⟩, .int .i64 0, .string ⟨#[]⟩, .slice none 0 0, .slice none 0 0, .int .i64 0, .int .i64 0, .int .i64 0] 31)) := (Below.refl _ w).alloc (Nat.le_refl _) _
  have hlw : w.heap.size < (w.alloc (.cells #[.int .i64 0, .bool false, .bool false, .string ⟨#[]⟩, .int .i64 0, .string ⟨#[]⟩, .slice none 0 0, .slice none 0 0, .int .i64 0, .int .i64 0, .int .i64 0] 31)).heap.size := by simp
  have hb := fun (wx : World) (x : Int) => rbad_any (w := wx) (p := q) (e := x)
  simp only [badV] at hb
  have hdd : decide ((64 : Int) < d) = false := decide_eq_false (by omega)
  have hdd' : ¬ (64 : Int) < d := by omega
  have hval : value (K + 1) (l.drop q) = number (l.drop q) := by
    rw [nb_get hq] at hx1 hx2
    have hh : (l.drop q).head? = some l[q] := by rw [List.drop_eq_getElem_cons hq]; rfl
    have hdg : digit l[q] = true := by unfold digit; simp; omega
    rw [value_succ hh (begins_digit hdg), read_digit hh hdg]
  have hcall := rnumber_tells (w := w.alloc (.cells #[.int .i64 0, .bool false, .bool false, .string ⟨#[]⟩, .int .i64 0, .string ⟨#[]⟩, .slice none 0 0, .slice none 0 0, .int .i64 0, .int .i64 0, .int .i64 0] 31)) (l := l) (q := q) hl (by omega)
  rw [← hval] at hcall
  have g1 : ¬ (l.length : Int) ≤ (q : Int) := by omega
  have g2 : decide (l.length ≤ q) = false := decide_eq_false (by omega)
  have hix := idx hq
  have d1 : decide (48 ≤ nb l q) = true := decide_eq_true (by omega)
  have d1' : (48 : Int) ≤ ((nb l q : Nat) : Int) := by omega
  have d2 : decide (nb l q ≤ 57) = true := decide_eq_true (by omega)
  have d2' : ((nb l q : Nat) : Int) ≤ (57 : Int) := by omega
  have n110 : (((nb l q : Nat) : Int) != 110) = true := by simp; omega
  have n116 : (((nb l q : Nat) : Int) != 116) = true := by simp; omega
  have n102 : (((nb l q : Nat) : Int) != 102) = true := by simp; omega
  have n34 : (((nb l q : Nat) : Int) != 34) = true := by simp; omega
  have n91 : (((nb l q : Nat) : Int) != 91) = true := by simp; omega
  have n123 : (((nb l q : Nat) : Int) != 123) = true := by simp; omega
  generalize nb l q = x at *
  have HC := Lib.hid hcall
  have HA := Lib.hid hA
  have HBA := Lib.hid bA
  clear hval hcall hb hA bA
  go_enter Tryz.func22, Tryz.ntmps22
  go_wp2_with fail
  refine HC.out.mono ?_
  rintro e w2 ⟨hT, k2⟩
  obtain ⟨k0, b0, b1, dd, x0, tt, a1, n1, m1, a2, n2, m2, aa, pp, kk, rfl, -⟩ := id hT
  have hgot := (k2.block _ (lt_of_heap HA.out)).trans HA.out
  have hbel := HBA.out.trans (k2.mono HBA.out.size)
  have HT := Lib.hid hT
  clear k2 hT
  have h9 := set11 hgot (.int .i64 k0) (.bool b0) (.bool b1) (.string dd) (.int .i64 x0) (.string tt) (.slice a1 n1 m1) (.slice a2 n2 m2) (.int .i64 aa) (.int .i64 pp) (.int .i64 kk)
  have b9 := below11 hbel (Nat.le_refl _) (.int .i64 k0) (.bool b0) (.bool b1) (.string dd) (.int .i64 x0) (.string tt) (.slice a1 n1 m1) (.slice a2 n2 m2) (.int .i64 aa) (.int .i64 pp) (.int .i64 kk)
  obtain ⟨z0, z1, z2, z3, z4, z5, z6, z7, z8, z9, z10⟩ := eleven h9
  obtain ⟨y0, y1, y2, y3, y4, y5, y6, y7, y8, y9, y10⟩ := eleven hgot
  have qf := free_of hgot
  have HB9 := Lib.hid b9
  clear h9 b9
  go_wp2_with fail
  refine bodyPost_ret (v := .agg #[.int .i64 k0, .bool b0, .bool b1, .string dd, .int .i64 x0, .string tt, .slice a1 n1 m1, .slice a2 n2 m2, .int .i64 aa, .int .i64 pp, .int .i64 kk]) (by simp [results, Tryz.results22, go_sem, z0, z1, z2, z3, z4, z5, z6, z7, z8, z9, z10]) rfl ⟨HT.out.map fun u x h => holdF_set11 h hlw (Nat.le_of_lt hlw) (.int .i64 k0) (.bool b0) (.bool b1) (.string dd) (.int .i64 x0) (.string tt) (.slice a1 n1 m1) (.slice a2 n2 m2) (.int .i64 aa) (.int .i64 pp) (.int .i64 kk), HB9.out⟩
set_option maxRecDepth 100000 in
set_option maxHeartbeats 2000000 in
theorem rvalue_min {w : World} {l : List UInt8} {q K : Nat} {d : Int} (hl : l.length < 100000) (hq : q < l.length) (hx : nb l q = 45) (hd : d ≤ 64) :
    Calls Tryz.prog 22 #[.string (txt l), .int .i64 q, .int .i64 d] w fun e w' => TellE (HoldF w.heap.size w') l.length (value (K + 1) (l.drop q)) e ∧ Below w.heap.size w w' := by
  have hs := txt_size l
  have hA := World.alloc_heap_new w (.cells #[.int .i64 0, .bool false, .bool false, .string ⟨#[]⟩, .int .i64 0, .string ⟨#[]⟩, .slice none 0 0, .slice none 0 0, .int .i64 0, .int .i64 0, .int .i64 0] 31)
  have bA : Below w.heap.size w (w.alloc (.cells #[.int .i64 0, .bool false, .bool false, .string ⟨#[]⟩, .int .i64 0, .string ⟨#[]⟩, .slice none 0 0, .slice none 0 0, .int .i64 0, .int .i64 0, .int .i64 0] 31)) := (Below.refl _ w).alloc (Nat.le_refl _) _
  have hlw : w.heap.size < (w.alloc (.cells #[.int .i64 0, .bool false, .bool false, .string ⟨#[]⟩, .int .i64 0, .string ⟨#[]⟩, .slice none 0 0, .slice none 0 0, .int .i64 0, .int .i64 0, .int .i64 0] 31)).heap.size := by simp
  have hb := fun (wx : World) (x : Int) => rbad_any (w := wx) (p := q) (e := x)
  simp only [badV] at hb
  have hdd : decide ((64 : Int) < d) = false := decide_eq_false (by omega)
  have hdd' : ¬ (64 : Int) < d := by omega
  have hval : value (K + 1) (l.drop q) = number (l.drop q) := by
    have hh := head_of 45 (by decide) hx
    rw [value_succ hh (by decide), read_digit hh (by decide)]
  have hcall := rnumber_tells (w := w.alloc (.cells #[.int .i64 0, .bool false, .bool false, .string ⟨#[]⟩, .int .i64 0, .string ⟨#[]⟩, .slice none 0 0, .slice none 0 0, .int .i64 0, .int .i64 0, .int .i64 0] 31)) (l := l) (q := q) hl (by omega)
  rw [← hval] at hcall
  have g1 : ¬ (l.length : Int) ≤ (q : Int) := by omega
  have g2 : decide (l.length ≤ q) = false := decide_eq_false (by omega)
  have hix := idx hq
  rw [hx] at hix
  have HC := Lib.hid hcall
  have HA := Lib.hid hA
  have HBA := Lib.hid bA
  clear hval hcall hb hA bA
  go_enter Tryz.func22, Tryz.ntmps22
  go_wp2_with fail
  refine HC.out.mono ?_
  rintro e w2 ⟨hT, k2⟩
  obtain ⟨k0, b0, b1, dd, x0, tt, a1, n1, m1, a2, n2, m2, aa, pp, kk, rfl, -⟩ := id hT
  have hgot := (k2.block _ (lt_of_heap HA.out)).trans HA.out
  have hbel := HBA.out.trans (k2.mono HBA.out.size)
  have HT := Lib.hid hT
  clear k2 hT
  have h9 := set11 hgot (.int .i64 k0) (.bool b0) (.bool b1) (.string dd) (.int .i64 x0) (.string tt) (.slice a1 n1 m1) (.slice a2 n2 m2) (.int .i64 aa) (.int .i64 pp) (.int .i64 kk)
  have b9 := below11 hbel (Nat.le_refl _) (.int .i64 k0) (.bool b0) (.bool b1) (.string dd) (.int .i64 x0) (.string tt) (.slice a1 n1 m1) (.slice a2 n2 m2) (.int .i64 aa) (.int .i64 pp) (.int .i64 kk)
  obtain ⟨z0, z1, z2, z3, z4, z5, z6, z7, z8, z9, z10⟩ := eleven h9
  obtain ⟨y0, y1, y2, y3, y4, y5, y6, y7, y8, y9, y10⟩ := eleven hgot
  have qf := free_of hgot
  have HB9 := Lib.hid b9
  clear h9 b9
  go_wp2_with fail
  refine bodyPost_ret (v := .agg #[.int .i64 k0, .bool b0, .bool b1, .string dd, .int .i64 x0, .string tt, .slice a1 n1 m1, .slice a2 n2 m2, .int .i64 aa, .int .i64 pp, .int .i64 kk]) (by simp [results, Tryz.results22, go_sem, z0, z1, z2, z3, z4, z5, z6, z7, z8, z9, z10]) rfl ⟨HT.out.map fun u x h => holdF_set11 h hlw (Nat.le_of_lt hlw) (.int .i64 k0) (.bool b0) (.bool b1) (.string dd) (.int .i64 x0) (.string tt) (.slice a1 n1 m1) (.slice a2 n2 m2) (.int .i64 aa) (.int .i64 pp) (.int .i64 kk), HB9.out⟩
set_option maxRecDepth 100000 in
set_option maxHeartbeats 2000000 in
theorem rvalue_null {w : World} {l : List UInt8} {q K : Nat} {d : Int} (hl : l.length < 100000) (hq : q < l.length) (hx : nb l q = 110) (hd : d ≤ 64) :
    Calls Tryz.prog 22 #[.string (txt l), .int .i64 q, .int .i64 d] w fun e w' => TellE (HoldF w.heap.size w') l.length (value (K + 1) (l.drop q)) e ∧ Below w.heap.size w w' := by
  have hs := txt_size l
  have hA := World.alloc_heap_new w (.cells #[.int .i64 0, .bool false, .bool false, .string ⟨#[]⟩, .int .i64 0, .string ⟨#[]⟩, .slice none 0 0, .slice none 0 0, .int .i64 0, .int .i64 0, .int .i64 0] 31)
  have bA : Below w.heap.size w (w.alloc (.cells #[.int .i64 0, .bool false, .bool false, .string ⟨#[]⟩, .int .i64 0, .string ⟨#[]⟩, .slice none 0 0, .slice none 0 0, .int .i64 0, .int .i64 0, .int .i64 0] 31)) := (Below.refl _ w).alloc (Nat.le_refl _) _
  have hlw : w.heap.size < (w.alloc (.cells #[.int .i64 0, .bool false, .bool false, .string ⟨#[]⟩, .int .i64 0, .string ⟨#[]⟩, .slice none 0 0, .slice none 0 0, .int .i64 0, .int .i64 0, .int .i64 0] 31)).heap.size := by simp
  have hb := fun (wx : World) (x : Int) => rbad_any (w := wx) (p := q) (e := x)
  simp only [badV] at hb
  have hdd : decide ((64 : Int) < d) = false := decide_eq_false (by omega)
  have hdd' : ¬ (64 : Int) < d := by omega
  have hval : value (K + 1) (l.drop q) = word ⟨1, false, Num.zero, [], [], []⟩ [110, 117, 108, 108] (l.drop q) := by
    have hh := head_of 110 (by decide) hx
    rw [value_succ hh (by decide)]
    unfold read
    rw [hh]
    rfl
  have hcall := rword_tells (w := w.alloc (.cells #[.int .i64 0, .bool false, .bool false, .string ⟨#[]⟩, .int .i64 0, .string ⟨#[]⟩, .slice none 0 0, .slice none 0 0, .int .i64 0, .int .i64 0, .int .i64 0] 31)) (l := l) (W := [110, 117, 108, 108]) (q := q) (k0 := 1) (bl := false) (bm := false) (d := ⟨#[]⟩) (x0 := 0) (t := ⟨#[]⟩) (a1 := none) (n1 := 0) (m1 := 0) (a2 := none) (n2 := 0) (m2 := 0) ⟨1, false, Num.zero, [], [], []⟩ (fun wx => hold_flat 1 false Num.zero []) hl (by decide) (by omega)
  rw [← hval] at hcall
  have g1 : ¬ (l.length : Int) ≤ (q : Int) := by omega
  have g2 : decide (l.length ≤ q) = false := decide_eq_false (by omega)
  have hix := idx hq
  rw [hx] at hix
  have tw : (⟨#[110, 117, 108, 108]⟩ : ByteArray) = txt [110, 117, 108, 108] := rfl
  have HC := Lib.hid hcall
  have HA := Lib.hid hA
  have HBA := Lib.hid bA
  clear hval hcall hb hA bA
  go_enter Tryz.func22, Tryz.ntmps22
  go_wp2_with fail
  refine HC.out.mono ?_
  rintro e w2 ⟨hT, k2⟩
  obtain ⟨k0, b0, b1, dd, x0, tt, a1, n1, m1, a2, n2, m2, aa, pp, kk, rfl, -⟩ := id hT
  have hgot := (k2.block _ (lt_of_heap HA.out)).trans HA.out
  have hbel := HBA.out.trans (k2.mono HBA.out.size)
  have HT := Lib.hid hT
  clear k2 hT
  have h9 := set11 hgot (.int .i64 k0) (.bool b0) (.bool b1) (.string dd) (.int .i64 x0) (.string tt) (.slice a1 n1 m1) (.slice a2 n2 m2) (.int .i64 aa) (.int .i64 pp) (.int .i64 kk)
  have b9 := below11 hbel (Nat.le_refl _) (.int .i64 k0) (.bool b0) (.bool b1) (.string dd) (.int .i64 x0) (.string tt) (.slice a1 n1 m1) (.slice a2 n2 m2) (.int .i64 aa) (.int .i64 pp) (.int .i64 kk)
  obtain ⟨z0, z1, z2, z3, z4, z5, z6, z7, z8, z9, z10⟩ := eleven h9
  obtain ⟨y0, y1, y2, y3, y4, y5, y6, y7, y8, y9, y10⟩ := eleven hgot
  have qf := free_of hgot
  have HB9 := Lib.hid b9
  clear h9 b9
  go_wp2_with fail
  refine bodyPost_ret (v := .agg #[.int .i64 k0, .bool b0, .bool b1, .string dd, .int .i64 x0, .string tt, .slice a1 n1 m1, .slice a2 n2 m2, .int .i64 aa, .int .i64 pp, .int .i64 kk]) (by simp [results, Tryz.results22, go_sem, z0, z1, z2, z3, z4, z5, z6, z7, z8, z9, z10]) rfl ⟨HT.out.map fun u x h => holdF_set11 h hlw (Nat.le_of_lt hlw) (.int .i64 k0) (.bool b0) (.bool b1) (.string dd) (.int .i64 x0) (.string tt) (.slice a1 n1 m1) (.slice a2 n2 m2) (.int .i64 aa) (.int .i64 pp) (.int .i64 kk), HB9.out⟩
set_option maxRecDepth 100000 in
set_option maxHeartbeats 2000000 in
theorem rvalue_true {w : World} {l : List UInt8} {q K : Nat} {d : Int} (hl : l.length < 100000) (hq : q < l.length) (hx : nb l q = 116) (hd : d ≤ 64) :
    Calls Tryz.prog 22 #[.string (txt l), .int .i64 q, .int .i64 d] w fun e w' => TellE (HoldF w.heap.size w') l.length (value (K + 1) (l.drop q)) e ∧ Below w.heap.size w w' := by
  have hs := txt_size l
  have hA := World.alloc_heap_new w (.cells #[.int .i64 0, .bool false, .bool false, .string ⟨#[]⟩, .int .i64 0, .string ⟨#[]⟩, .slice none 0 0, .slice none 0 0, .int .i64 0, .int .i64 0, .int .i64 0] 31)
  have bA : Below w.heap.size w (w.alloc (.cells #[.int .i64 0, .bool false, .bool false, .string ⟨#[]⟩, .int .i64 0, .string ⟨#[]⟩, .slice none 0 0, .slice none 0 0, .int .i64 0, .int .i64 0, .int .i64 0] 31)) := (Below.refl _ w).alloc (Nat.le_refl _) _
  have hlw : w.heap.size < (w.alloc (.cells #[.int .i64 0, .bool false, .bool false, .string ⟨#[]⟩, .int .i64 0, .string ⟨#[]⟩, .slice none 0 0, .slice none 0 0, .int .i64 0, .int .i64 0, .int .i64 0] 31)).heap.size := by simp
  have hb := fun (wx : World) (x : Int) => rbad_any (w := wx) (p := q) (e := x)
  simp only [badV] at hb
  have hdd : decide ((64 : Int) < d) = false := decide_eq_false (by omega)
  have hdd' : ¬ (64 : Int) < d := by omega
  have hval : value (K + 1) (l.drop q) = word ⟨2, true, Num.zero, [], [], []⟩ [116, 114, 117, 101] (l.drop q) := by
    have hh := head_of 116 (by decide) hx
    rw [value_succ hh (by decide)]
    unfold read
    rw [hh]
    rfl
  have hcall := rword_tells (w := w.alloc (.cells #[.int .i64 0, .bool false, .bool false, .string ⟨#[]⟩, .int .i64 0, .string ⟨#[]⟩, .slice none 0 0, .slice none 0 0, .int .i64 0, .int .i64 0, .int .i64 0] 31)) (l := l) (W := [116, 114, 117, 101]) (q := q) (k0 := 2) (bl := true) (bm := false) (d := ⟨#[]⟩) (x0 := 0) (t := ⟨#[]⟩) (a1 := none) (n1 := 0) (m1 := 0) (a2 := none) (n2 := 0) (m2 := 0) ⟨2, true, Num.zero, [], [], []⟩ (fun wx => hold_flat 2 true Num.zero []) hl (by decide) (by omega)
  rw [← hval] at hcall
  have g1 : ¬ (l.length : Int) ≤ (q : Int) := by omega
  have g2 : decide (l.length ≤ q) = false := decide_eq_false (by omega)
  have hix := idx hq
  rw [hx] at hix
  have tw : (⟨#[116, 114, 117, 101]⟩ : ByteArray) = txt [116, 114, 117, 101] := rfl
  have HC := Lib.hid hcall
  have HA := Lib.hid hA
  have HBA := Lib.hid bA
  clear hval hcall hb hA bA
  go_enter Tryz.func22, Tryz.ntmps22
  go_wp2_with fail
  refine HC.out.mono ?_
  rintro e w2 ⟨hT, k2⟩
  obtain ⟨k0, b0, b1, dd, x0, tt, a1, n1, m1, a2, n2, m2, aa, pp, kk, rfl, -⟩ := id hT
  have hgot := (k2.block _ (lt_of_heap HA.out)).trans HA.out
  have hbel := HBA.out.trans (k2.mono HBA.out.size)
  have HT := Lib.hid hT
  clear k2 hT
  have h9 := set11 hgot (.int .i64 k0) (.bool b0) (.bool b1) (.string dd) (.int .i64 x0) (.string tt) (.slice a1 n1 m1) (.slice a2 n2 m2) (.int .i64 aa) (.int .i64 pp) (.int .i64 kk)
  have b9 := below11 hbel (Nat.le_refl _) (.int .i64 k0) (.bool b0) (.bool b1) (.string dd) (.int .i64 x0) (.string tt) (.slice a1 n1 m1) (.slice a2 n2 m2) (.int .i64 aa) (.int .i64 pp) (.int .i64 kk)
  obtain ⟨z0, z1, z2, z3, z4, z5, z6, z7, z8, z9, z10⟩ := eleven h9
  obtain ⟨y0, y1, y2, y3, y4, y5, y6, y7, y8, y9, y10⟩ := eleven hgot
  have qf := free_of hgot
  have HB9 := Lib.hid b9
  clear h9 b9
  go_wp2_with fail
  refine bodyPost_ret (v := .agg #[.int .i64 k0, .bool b0, .bool b1, .string dd, .int .i64 x0, .string tt, .slice a1 n1 m1, .slice a2 n2 m2, .int .i64 aa, .int .i64 pp, .int .i64 kk]) (by simp [results, Tryz.results22, go_sem, z0, z1, z2, z3, z4, z5, z6, z7, z8, z9, z10]) rfl ⟨HT.out.map fun u x h => holdF_set11 h hlw (Nat.le_of_lt hlw) (.int .i64 k0) (.bool b0) (.bool b1) (.string dd) (.int .i64 x0) (.string tt) (.slice a1 n1 m1) (.slice a2 n2 m2) (.int .i64 aa) (.int .i64 pp) (.int .i64 kk), HB9.out⟩
set_option maxRecDepth 100000 in
set_option maxHeartbeats 2000000 in
theorem rvalue_false {w : World} {l : List UInt8} {q K : Nat} {d : Int} (hl : l.length < 100000) (hq : q < l.length) (hx : nb l q = 102) (hd : d ≤ 64) :
    Calls Tryz.prog 22 #[.string (txt l), .int .i64 q, .int .i64 d] w fun e w' => TellE (HoldF w.heap.size w') l.length (value (K + 1) (l.drop q)) e ∧ Below w.heap.size w w' := by
  have hs := txt_size l
  have hA := World.alloc_heap_new w (.cells #[.int .i64 0, .bool false, .bool false, .string ⟨#[]⟩, .int .i64 0, .string ⟨#[]⟩, .slice none 0 0, .slice none 0 0, .int .i64 0, .int .i64 0, .int .i64 0] 31)
  have bA : Below w.heap.size w (w.alloc (.cells #[.int .i64 0, .bool false, .bool false, .string ⟨#[]⟩, .int .i64 0, .string ⟨#[]⟩, .slice none 0 0, .slice none 0 0, .int .i64 0, .int .i64 0, .int .i64 0] 31)) := (Below.refl _ w).alloc (Nat.le_refl _) _
  have hlw : w.heap.size < (w.alloc (.cells #[.int .i64 0, .bool false, .bool false, .string ⟨#[]⟩, .int .i64 0, .string ⟨#[]⟩, .slice none 0 0, .slice none 0 0, .int .i64 0, .int .i64 0, .int .i64 0] 31)).heap.size := by simp
  have hb := fun (wx : World) (x : Int) => rbad_any (w := wx) (p := q) (e := x)
  simp only [badV] at hb
  have hdd : decide ((64 : Int) < d) = false := decide_eq_false (by omega)
  have hdd' : ¬ (64 : Int) < d := by omega
  have hval : value (K + 1) (l.drop q) = word ⟨2, false, Num.zero, [], [], []⟩ [102, 97, 108, 115, 101] (l.drop q) := by
    have hh := head_of 102 (by decide) hx
    rw [value_succ hh (by decide)]
    unfold read
    rw [hh]
    rfl
  have hcall := rword_tells (w := w.alloc (.cells #[.int .i64 0, .bool false, .bool false, .string ⟨#[]⟩, .int .i64 0, .string ⟨#[]⟩, .slice none 0 0, .slice none 0 0, .int .i64 0, .int .i64 0, .int .i64 0] 31)) (l := l) (W := [102, 97, 108, 115, 101]) (q := q) (k0 := 2) (bl := false) (bm := false) (d := ⟨#[]⟩) (x0 := 0) (t := ⟨#[]⟩) (a1 := none) (n1 := 0) (m1 := 0) (a2 := none) (n2 := 0) (m2 := 0) ⟨2, false, Num.zero, [], [], []⟩ (fun wx => hold_flat 2 false Num.zero []) hl (by decide) (by omega)
  rw [← hval] at hcall
  have g1 : ¬ (l.length : Int) ≤ (q : Int) := by omega
  have g2 : decide (l.length ≤ q) = false := decide_eq_false (by omega)
  have hix := idx hq
  rw [hx] at hix
  have tw : (⟨#[102, 97, 108, 115, 101]⟩ : ByteArray) = txt [102, 97, 108, 115, 101] := rfl
  have HC := Lib.hid hcall
  have HA := Lib.hid hA
  have HBA := Lib.hid bA
  clear hval hcall hb hA bA
  go_enter Tryz.func22, Tryz.ntmps22
  go_wp2_with fail
  refine HC.out.mono ?_
  rintro e w2 ⟨hT, k2⟩
  obtain ⟨k0, b0, b1, dd, x0, tt, a1, n1, m1, a2, n2, m2, aa, pp, kk, rfl, -⟩ := id hT
  have hgot := (k2.block _ (lt_of_heap HA.out)).trans HA.out
  have hbel := HBA.out.trans (k2.mono HBA.out.size)
  have HT := Lib.hid hT
  clear k2 hT
  have h9 := set11 hgot (.int .i64 k0) (.bool b0) (.bool b1) (.string dd) (.int .i64 x0) (.string tt) (.slice a1 n1 m1) (.slice a2 n2 m2) (.int .i64 aa) (.int .i64 pp) (.int .i64 kk)
  have b9 := below11 hbel (Nat.le_refl _) (.int .i64 k0) (.bool b0) (.bool b1) (.string dd) (.int .i64 x0) (.string tt) (.slice a1 n1 m1) (.slice a2 n2 m2) (.int .i64 aa) (.int .i64 pp) (.int .i64 kk)
  obtain ⟨z0, z1, z2, z3, z4, z5, z6, z7, z8, z9, z10⟩ := eleven h9
  obtain ⟨y0, y1, y2, y3, y4, y5, y6, y7, y8, y9, y10⟩ := eleven hgot
  have qf := free_of hgot
  have HB9 := Lib.hid b9
  clear h9 b9
  go_wp2_with fail
  refine bodyPost_ret (v := .agg #[.int .i64 k0, .bool b0, .bool b1, .string dd, .int .i64 x0, .string tt, .slice a1 n1 m1, .slice a2 n2 m2, .int .i64 aa, .int .i64 pp, .int .i64 kk]) (by simp [results, Tryz.results22, go_sem, z0, z1, z2, z3, z4, z5, z6, z7, z8, z9, z10]) rfl ⟨HT.out.map fun u x h => holdF_set11 h hlw (Nat.le_of_lt hlw) (.int .i64 k0) (.bool b0) (.bool b1) (.string dd) (.int .i64 x0) (.string tt) (.slice a1 n1 m1) (.slice a2 n2 m2) (.int .i64 aa) (.int .i64 pp) (.int .i64 kk), HB9.out⟩
set_option maxRecDepth 100000 in
set_option maxHeartbeats 2000000 in
theorem rvalue_list {w : World} {l : List UInt8} {q K : Nat} {d : Int} (hl : l.length < 100000) (hq : q < l.length) (hx : nb l q = 91) (hd : d ≤ 64) (hd0 : 0 ≤ d) (hv : ∀ (wx : World) (p : Nat), p ≤ l.length → Calls Tryz.prog 22 #[.string (txt l), .int .i64 p, .int .i64 (d + 1)] wx fun e w' => TellE (HoldF wx.heap.size w') l.length (value K (l.drop p)) e ∧ Below wx.heap.size wx w') :
    Calls Tryz.prog 22 #[.string (txt l), .int .i64 q, .int .i64 d] w fun e w' => TellE (HoldF w.heap.size w') l.length (value (K + 1) (l.drop q)) e ∧ Below w.heap.size w w' := by
  have hs := txt_size l
  have hA := World.alloc_heap_new w (.cells #[.int .i64 0, .bool false, .bool false, .string ⟨#[]⟩, .int .i64 0, .string ⟨#[]⟩, .slice none 0 0, .slice none 0 0, .int .i64 0, .int .i64 0, .int .i64 0] 31)
  have bA : Below w.heap.size w (w.alloc (.cells #[.int .i64 0, .bool false, .bool false, .string ⟨#[]⟩, .int .i64 0, .string ⟨#[]⟩, .slice none 0 0, .slice none 0 0, .int .i64 0, .int .i64 0, .int .i64 0] 31)) := (Below.refl _ w).alloc (Nat.le_refl _) _
  have hlw : w.heap.size < (w.alloc (.cells #[.int .i64 0, .bool false, .bool false, .string ⟨#[]⟩, .int .i64 0, .string ⟨#[]⟩, .slice none 0 0, .slice none 0 0, .int .i64 0, .int .i64 0, .int .i64 0] 31)).heap.size := by simp
  have hb := fun (wx : World) (x : Int) => rbad_any (w := wx) (p := q) (e := x)
  simp only [badV] at hb
  have hdd : decide ((64 : Int) < d) = false := decide_eq_false (by omega)
  have hdd' : ¬ (64 : Int) < d := by omega
  have hval : value (K + 1) (l.drop q) = many (value K) (l.drop q) := by
    have hh := head_of 91 (by decide) hx
    rw [value_succ hh (by decide)]
    unfold read
    rw [hh]
    rfl
  have hcall := rmany_list (w := w.alloc (.cells #[.int .i64 0, .bool false, .bool false, .string ⟨#[]⟩, .int .i64 0, .string ⟨#[]⟩, .slice none 0 0, .slice none 0 0, .int .i64 0, .int .i64 0, .int .i64 0] 31)) (K := K) hl hq hx hd0 (by omega) hv
  rw [← hval] at hcall
  have g1 : ¬ (l.length : Int) ≤ (q : Int) := by omega
  have g2 : decide (l.length ≤ q) = false := decide_eq_false (by omega)
  have hix := idx hq
  rw [hx] at hix
  clear hv
  have HC := Lib.hid hcall
  have HA := Lib.hid hA
  have HBA := Lib.hid bA
  clear hval hcall hb hA bA
  go_enter Tryz.func22, Tryz.ntmps22
  go_wp2_with fail
  refine HC.out.mono ?_
  rintro e w2 ⟨hT, k2⟩
  obtain ⟨k0, b0, b1, dd, x0, tt, a1, n1, m1, a2, n2, m2, aa, pp, kk, rfl, -⟩ := id hT
  have hgot := (k2.block _ (lt_of_heap HA.out)).trans HA.out
  have hbel := HBA.out.trans (k2.mono HBA.out.size)
  have HT := Lib.hid hT
  clear k2 hT
  have h9 := set11 hgot (.int .i64 k0) (.bool b0) (.bool b1) (.string dd) (.int .i64 x0) (.string tt) (.slice a1 n1 m1) (.slice a2 n2 m2) (.int .i64 aa) (.int .i64 pp) (.int .i64 kk)
  have b9 := below11 hbel (Nat.le_refl _) (.int .i64 k0) (.bool b0) (.bool b1) (.string dd) (.int .i64 x0) (.string tt) (.slice a1 n1 m1) (.slice a2 n2 m2) (.int .i64 aa) (.int .i64 pp) (.int .i64 kk)
  obtain ⟨z0, z1, z2, z3, z4, z5, z6, z7, z8, z9, z10⟩ := eleven h9
  obtain ⟨y0, y1, y2, y3, y4, y5, y6, y7, y8, y9, y10⟩ := eleven hgot
  have qf := free_of hgot
  have HB9 := Lib.hid b9
  clear h9 b9
  go_wp2_with fail
  refine bodyPost_ret (v := .agg #[.int .i64 k0, .bool b0, .bool b1, .string dd, .int .i64 x0, .string tt, .slice a1 n1 m1, .slice a2 n2 m2, .int .i64 aa, .int .i64 pp, .int .i64 kk]) (by simp [results, Tryz.results22, go_sem, z0, z1, z2, z3, z4, z5, z6, z7, z8, z9, z10]) rfl ⟨HT.out.map fun u x h => holdF_set11 h hlw (Nat.le_of_lt hlw) (.int .i64 k0) (.bool b0) (.bool b1) (.string dd) (.int .i64 x0) (.string tt) (.slice a1 n1 m1) (.slice a2 n2 m2) (.int .i64 aa) (.int .i64 pp) (.int .i64 kk), HB9.out⟩
set_option maxRecDepth 100000 in
set_option maxHeartbeats 2000000 in
theorem rvalue_obj {w : World} {l : List UInt8} {q K : Nat} {d : Int} (hl : l.length < 100000) (hq : q < l.length) (hx : nb l q = 123) (hd : d ≤ 64) (hd0 : 0 ≤ d) (hv : ∀ (wx : World) (p : Nat), p ≤ l.length → Calls Tryz.prog 22 #[.string (txt l), .int .i64 p, .int .i64 (d + 1)] wx fun e w' => TellE (HoldF wx.heap.size w') l.length (value K (l.drop p)) e ∧ Below wx.heap.size wx w') :
    Calls Tryz.prog 22 #[.string (txt l), .int .i64 q, .int .i64 d] w fun e w' => TellE (HoldF w.heap.size w') l.length (value (K + 1) (l.drop q)) e ∧ Below w.heap.size w w' := by
  have hs := txt_size l
  have hA := World.alloc_heap_new w (.cells #[.int .i64 0, .bool false, .bool false, .string ⟨#[]⟩, .int .i64 0, .string ⟨#[]⟩, .slice none 0 0, .slice none 0 0, .int .i64 0, .int .i64 0, .int .i64 0] 31)
  have bA : Below w.heap.size w (w.alloc (.cells #[.int .i64 0, .bool false, .bool false, .string ⟨#[]⟩, .int .i64 0, .string ⟨#[]⟩, .slice none 0 0, .slice none 0 0, .int .i64 0, .int .i64 0, .int .i64 0] 31)) := (Below.refl _ w).alloc (Nat.le_refl _) _
  have hlw : w.heap.size < (w.alloc (.cells #[.int .i64 0, .bool false, .bool false, .string ⟨#[]⟩, .int .i64 0, .string ⟨#[]⟩, .slice none 0 0, .slice none 0 0, .int .i64 0, .int .i64 0, .int .i64 0] 31)).heap.size := by simp
  have hb := fun (wx : World) (x : Int) => rbad_any (w := wx) (p := q) (e := x)
  simp only [badV] at hb
  have hdd : decide ((64 : Int) < d) = false := decide_eq_false (by omega)
  have hdd' : ¬ (64 : Int) < d := by omega
  have hval : value (K + 1) (l.drop q) = many (value K) (l.drop q) := by
    have hh := head_of 123 (by decide) hx
    rw [value_succ hh (by decide)]
    unfold read
    rw [hh]
    rfl
  have hcall := rmany_obj (w := w.alloc (.cells #[.int .i64 0, .bool false, .bool false, .string ⟨#[]⟩, .int .i64 0, .string ⟨#[]⟩, .slice none 0 0, .slice none 0 0, .int .i64 0, .int .i64 0, .int .i64 0] 31)) (K := K) hl hq hx hd0 (by omega) hv
  rw [← hval] at hcall
  have g1 : ¬ (l.length : Int) ≤ (q : Int) := by omega
  have g2 : decide (l.length ≤ q) = false := decide_eq_false (by omega)
  have hix := idx hq
  rw [hx] at hix
  clear hv
  have HC := Lib.hid hcall
  have HA := Lib.hid hA
  have HBA := Lib.hid bA
  clear hval hcall hb hA bA
  go_enter Tryz.func22, Tryz.ntmps22
  go_wp2_with fail
  refine HC.out.mono ?_
  rintro e w2 ⟨hT, k2⟩
  obtain ⟨k0, b0, b1, dd, x0, tt, a1, n1, m1, a2, n2, m2, aa, pp, kk, rfl, -⟩ := id hT
  have hgot := (k2.block _ (lt_of_heap HA.out)).trans HA.out
  have hbel := HBA.out.trans (k2.mono HBA.out.size)
  have HT := Lib.hid hT
  clear k2 hT
  have h9 := set11 hgot (.int .i64 k0) (.bool b0) (.bool b1) (.string dd) (.int .i64 x0) (.string tt) (.slice a1 n1 m1) (.slice a2 n2 m2) (.int .i64 aa) (.int .i64 pp) (.int .i64 kk)
  have b9 := below11 hbel (Nat.le_refl _) (.int .i64 k0) (.bool b0) (.bool b1) (.string dd) (.int .i64 x0) (.string tt) (.slice a1 n1 m1) (.slice a2 n2 m2) (.int .i64 aa) (.int .i64 pp) (.int .i64 kk)
  obtain ⟨z0, z1, z2, z3, z4, z5, z6, z7, z8, z9, z10⟩ := eleven h9
  obtain ⟨y0, y1, y2, y3, y4, y5, y6, y7, y8, y9, y10⟩ := eleven hgot
  have qf := free_of hgot
  have HB9 := Lib.hid b9
  clear h9 b9
  go_wp2_with fail
  refine bodyPost_ret (v := .agg #[.int .i64 k0, .bool b0, .bool b1, .string dd, .int .i64 x0, .string tt, .slice a1 n1 m1, .slice a2 n2 m2, .int .i64 aa, .int .i64 pp, .int .i64 kk]) (by simp [results, Tryz.results22, go_sem, z0, z1, z2, z3, z4, z5, z6, z7, z8, z9, z10]) rfl ⟨HT.out.map fun u x h => holdF_set11 h hlw (Nat.le_of_lt hlw) (.int .i64 k0) (.bool b0) (.bool b1) (.string dd) (.int .i64 x0) (.string tt) (.slice a1 n1 m1) (.slice a2 n2 m2) (.int .i64 aa) (.int .i64 pp) (.int .i64 kk), HB9.out⟩
set_option maxRecDepth 100000 in
set_option maxHeartbeats 2000000 in
theorem rvalue_text {w : World} {l : List UInt8} {q K : Nat} {d : Int} (hl : l.length < 100000) (hq : q < l.length) (hx : nb l q = 34) (hd : d ≤ 64) :
    Calls Tryz.prog 22 #[.string (txt l), .int .i64 q, .int .i64 d] w fun e w' => TellE (HoldF w.heap.size w') l.length (value (K + 1) (l.drop q)) e ∧ Below w.heap.size w w' := by
  have hs := txt_size l
  have hA := World.alloc_heap_new w (.cells #[.int .i64 0, .bool false, .bool false, .string ⟨#[]⟩, .int .i64 0, .string ⟨#[]⟩, .slice none 0 0, .slice none 0 0, .int .i64 0, .int .i64 0, .int .i64 0] 31)
  have bA : Below w.heap.size w (w.alloc (.cells #[.int .i64 0, .bool false, .bool false, .string ⟨#[]⟩, .int .i64 0, .string ⟨#[]⟩, .slice none 0 0, .slice none 0 0, .int .i64 0, .int .i64 0, .int .i64 0] 31)) := (Below.refl _ w).alloc (Nat.le_refl _) _
  have hlw : w.heap.size < (w.alloc (.cells #[.int .i64 0, .bool false, .bool false, .string ⟨#[]⟩, .int .i64 0, .string ⟨#[]⟩, .slice none 0 0, .slice none 0 0, .int .i64 0, .int .i64 0, .int .i64 0] 31)).heap.size := by simp
  have hb := fun (wx : World) (x : Int) => rbad_any (w := wx) (p := q) (e := x)
  simp only [badV] at hb
  have hdd : decide ((64 : Int) < d) = false := decide_eq_false (by omega)
  have hdd' : ¬ (64 : Int) < d := by omega
  have hval : value (K + 1) (l.drop q) = text (l.drop q) := by
    have hh := head_of 34 (by decide) hx
    rw [value_succ hh (by decide)]
    unfold read
    rw [hh]
    rfl
  have g1 : ¬ (l.length : Int) ≤ (q : Int) := by omega
  have g2 : decide (l.length ≤ q) = false := decide_eq_false (by omega)
  have hix := idx hq
  rw [hx] at hix
  have hsl := slL (l := l) (z := (q : Int)) (k := q) rfl (by omega)
  have hsc := fun (wx : World) => Quo.rscan_any (w := wx) (l := l.drop q) (by rw [List.length_drop]; omega)
  have hsz : (Quo.scan (l.drop q)).e = 0 → (Quo.scan (l.drop q)).size ≤ l.length - q := fun h => by
    have := (scan_ok h).2.2
    rwa [List.length_drop] at this
  unfold Quo.partV at hsc
  unfold text at hval
  rw [List.drop_drop] at hval
  generalize value (K + 1) (l.drop q) = gg at *
  generalize hP : Quo.scan (l.drop q) = P at *
  generalize hdt : l.drop q = t at *
  obtain ⟨ps, pn, pe⟩ := P
  dsimp only at hval hsc hsz
  have HV := Lib.hid hval
  have HSZ := Lib.hid hsz
  have HSC := Lib.hid (hsc (w.alloc (.cells #[.int .i64 0, .bool false, .bool false, .string ⟨#[]⟩, .int .i64 0, .string ⟨#[]⟩, .slice none 0 0, .slice none 0 0, .int .i64 0, .int .i64 0, .int .i64 0] 31)))
  have HA := Lib.hid hA
  have HBA := Lib.hid bA
  have HBD := Lib.hid hb
  clear hval hsz hsc hA bA hb hP hdt
  go_enter Tryz.func22, Tryz.ntmps22
  go_wp2_with fail
  refine HSC.out.mono ?_
  rintro e w2 ⟨rfl, k2⟩
  have hN := World.alloc_heap_new w2 (.cells #[.string (txt ps), .int .i64 pn, .int .i64 pe] 77)
  obtain ⟨W, hW⟩ : ∃ W, w2.alloc (.cells #[.string (txt ps), .int .i64 pn, .int .i64 pe] 77) = W := ⟨_, rfl⟩
  have kW : Below w2.heap.size w2 W := by rw [← hW]; exact (Below.refl _ w2).alloc (Nat.le_refl _) _
  rw [hW] at hN
  have hg2 := (kW.block _ (Nat.lt_of_lt_of_le (lt_of_heap HA.out) k2.size)).trans ((k2.block _ (lt_of_heap HA.out)).trans HA.out)
  have hb2 := (HBA.out.trans (k2.mono HBA.out.size)).trans (kW.mono (Nat.le_trans HBA.out.size k2.size))
  have HN := Lib.hid hN
  have HG2 := Lib.hid hg2
  have HB2 := Lib.hid hb2
  have HW := Lib.hid hW
  have hlt2 : w.heap.size < w2.heap.size := Nat.lt_of_lt_of_le hlw k2.size
  clear hN hg2 hb2 hW kW k2
  go_upto_region 20 with fail
  rw [HW.out]
  clear HW
  obtain ⟨n0, n1, n2⟩ := three HN.out
  have hlN := lt_of_heap HN.out
  by_cases he : pe = 0
  · subst he
    have hval := HV.out
    rw [if_neg (by simp)] at hval
    have hpn := HSZ.out rfl
    have hqp : IntKind.i64.wrap ((q : Int) + (pn : Int)) = (q : Int) + (pn : Int) := by simp only [IntKind.wrap, IntKind.signed, IntKind.bits]; simp; omega
    have HF := Lib.hid fun (wx : World) (p : Int) => TellE.good (C := HoldF w.heap.size wx) (n := l.length) (a := (q : Int) + (pn : Int)) (p := p) hval (by rw [List.length_drop]; omega) (hold_flat 4 false Num.zero ps)
    have hgot := HG2.out
    have hbel := HB2.out
    have hlg := lt_of_heap hgot
    clear hval hpn
    have h9 := set11 hgot (.int .i64 4) (.bool false) (.bool false) (.string ⟨#[]⟩) (.int .i64 0) (.string (txt ps)) (.slice none 0 0) (.slice none 0 0) (.int .i64 ((q : Int) + (pn : Int))) (.int .i64 0) (.int .i64 0)
    have b9 := below11 hbel (Nat.le_refl _) (.int .i64 4) (.bool false) (.bool false) (.string ⟨#[]⟩) (.int .i64 0) (.string (txt ps)) (.slice none 0 0) (.slice none 0 0) (.int .i64 ((q : Int) + (pn : Int))) (.int .i64 0) (.int .i64 0)
    obtain ⟨z0, z1, z2, z3, z4, z5, z6, z7, z8, z9, z10⟩ := eleven h9
    obtain ⟨y0, y1, y2, y3, y4, y5, y6, y7, y8, y9, y10⟩ := eleven hgot
    have qf := free_of hgot
    have HB9 := Lib.hid b9
    clear h9 b9
    go_wp2_with fail
    refine bodyPost_ret (v := .agg #[.int .i64 4, .bool false, .bool false, .string ⟨#[]⟩, .int .i64 0, .string (txt ps), .slice none 0 0, .slice none 0 0, .int .i64 ((q : Int) + (pn : Int)), .int .i64 0, .int .i64 0]) (by simp [results, Tryz.results22, go_sem, z0, z1, z2, z3, z4, z5, z6, z7, z8, z9, z10]) rfl ⟨HF.out _ _, HB9.out⟩
  · have he1 : (((pe : Nat) : Int) != 0) = true := by simp; omega
    have hval := HV.out
    rw [if_pos he] at hval
    have HF := Lib.hid fun (C : Value → Val → Prop) => TellE.bad2 (C := C) (n := l.length) hval (show ((pe : Nat) : Int) ≠ 0 by omega) 0 false false ⟨#[]⟩ 0 ⟨#[]⟩ none 0 0 none 0 0 0 q
    have HBP := Lib.hid (HBD.out W pe)
    clear hval he
    go_wp2_with fail
    refine HBP.out.mono ?_
    rintro e w3 ⟨rfl, k3⟩
    have hgot := (k3.block _ (lt_of_heap HG2.out)).trans HG2.out
    have hbel := HB2.out.trans (k3.mono HB2.out.size)
    clear k3 n0 n1 n2
    have h9 := set11 hgot (.int .i64 0) (.bool false) (.bool false) (.string ⟨#[]⟩) (.int .i64 0) (.string ⟨#[]⟩) (.slice none 0 0) (.slice none 0 0) (.int .i64 0) (.int .i64 q) (.int .i64 pe)
    have b9 := below11 hbel (Nat.le_refl _) (.int .i64 0) (.bool false) (.bool false) (.string ⟨#[]⟩) (.int .i64 0) (.string ⟨#[]⟩) (.slice none 0 0) (.slice none 0 0) (.int .i64 0) (.int .i64 q) (.int .i64 pe)
    obtain ⟨z0, z1, z2, z3, z4, z5, z6, z7, z8, z9, z10⟩ := eleven h9
    obtain ⟨y0, y1, y2, y3, y4, y5, y6, y7, y8, y9, y10⟩ := eleven hgot
    have qf := free_of hgot
    have HB9 := Lib.hid b9
    clear h9 b9
    go_wp2_with fail
    refine bodyPost_ret (v := .agg #[.int .i64 0, .bool false, .bool false, .string ⟨#[]⟩, .int .i64 0, .string ⟨#[]⟩, .slice none 0 0, .slice none 0 0, .int .i64 0, .int .i64 q, .int .i64 pe]) (by simp [results, Tryz.results22, go_sem, z0, z1, z2, z3, z4, z5, z6, z7, z8, z9, z10]) rfl ⟨HF.out _, HB9.out⟩
theorem valR_zero {l : List UInt8} (hl : l.length < 100000) : ValR l 0 := fun w q hq => by
  show Calls Tryz.prog 22 #[.string (txt l), .int .i64 q, .int .i64 65] w _
  by_cases h0 : q = l.length
  · exact rvalue_end hl (by omega)
  have hlt : q < l.length := by omega
  have hd : (64 : Int) < 65 := by decide
  by_cases h1 : nb l q = 110
  · exact rvalue_deepn hl hlt h1 hd
  by_cases h2 : nb l q = 116
  · exact rvalue_deept hl hlt h2 hd
  by_cases h3 : nb l q = 102
  · exact rvalue_deepf hl hlt h3 hd
  by_cases h4 : nb l q = 34
  · exact rvalue_deepq hl hlt h4 hd
  by_cases h5 : nb l q = 91
  · exact rvalue_deepl hl hlt h5 hd
  by_cases h6 : nb l q = 123
  · exact rvalue_deepo hl hlt h6 hd
  by_cases h7 : nb l q = 45
  · exact rvalue_deepm hl hlt h7 hd
  by_cases h8 : nb l q < 48
  · exact rvalue_formlo hl hlt h8 h7 h1 h2 h3 h4 h5 h6
  by_cases h9 : 57 < nb l q
  · exact rvalue_formhi hl hlt h9 h7 h1 h2 h3 h4 h5 h6
  exact rvalue_deepd hl hlt (by omega) (by omega) hd
theorem valR_succ {l : List UInt8} (hl : l.length < 100000) {K : Nat} (hK : K < 64) (hv : ValR l K) : ValR l (K + 1) := fun w q hq => by
  have hd : (65 : Int) - ((K + 1 : Nat) : Int) ≤ 64 := by omega
  have hd0 : (0 : Int) ≤ (65 : Int) - ((K + 1 : Nat) : Int) := by omega
  have hv' : ∀ (wx : World) (p : Nat), p ≤ l.length → Calls Tryz.prog 22 #[.string (txt l), .int .i64 p, .int .i64 ((65 : Int) - ((K + 1 : Nat) : Int) + 1)] wx fun e w' => TellE (HoldF wx.heap.size w') l.length (value K (l.drop p)) e ∧ Below wx.heap.size wx w' := fun wx p hp => by
    rw [show (65 : Int) - ((K + 1 : Nat) : Int) + 1 = 65 - (K : Int) by omega]
    exact hv wx p hp
  by_cases h0 : q = l.length
  · exact rvalue_end hl (by omega)
  have hlt : q < l.length := by omega
  by_cases h1 : nb l q = 110
  · exact rvalue_null hl hlt h1 hd
  by_cases h2 : nb l q = 116
  · exact rvalue_true hl hlt h2 hd
  by_cases h3 : nb l q = 102
  · exact rvalue_false hl hlt h3 hd
  by_cases h4 : nb l q = 34
  · exact rvalue_text hl hlt h4 hd
  by_cases h5 : nb l q = 91
  · exact rvalue_list hl hlt h5 hd hd0 hv'
  by_cases h6 : nb l q = 123
  · exact rvalue_obj hl hlt h6 hd hd0 hv'
  by_cases h7 : nb l q = 45
  · exact rvalue_min hl hlt h7 hd
  by_cases h8 : nb l q < 48
  · exact rvalue_formlo hl hlt h8 h7 h1 h2 h3 h4 h5 h6
  by_cases h9 : 57 < nb l q
  · exact rvalue_formhi hl hlt h9 h7 h1 h2 h3 h4 h5 h6
  exact rvalue_num hl hlt (by omega) (by omega) hd
theorem valR_all {l : List UInt8} (hl : l.length < 100000) : ∀ K : Nat, K ≤ 64 → ValR l K
  | 0, _ => valR_zero hl
  | K + 1, h => valR_succ hl (by omega) (valR_all hl K (by omega))
end Go.Proofs.YtlfbnfphocpgeaaGreatDoor.Jdec
namespace Go.Proofs.YtlfbnfphocpgeaaGreatDoor.Jdec
open Go.RowKit Kit Txt
open Utf (nb)
open Tre (Val HoldF HoldP)
/-- What is told of a whole text: eight cells of a value, no error; or an error. -/
def TellP {α : Type} (C : Value → α → Prop) (g : Got α) (e : Ending) : Prop :=
  ∃ (k0 : Int) (b0 b1 : Bool) (d : ByteArray) (x0 : Int) (t : ByteArray) (a1 : Option Addr) (n1 m1 : Nat) (a2 : Option Addr) (n2 m2 : Nat) (a p k : Int), e = .returned (.agg #[.int .i64 k0, .bool b0, .bool b1, .string d, .int .i64 x0, .string t, .slice a1 n1 m1, .slice a2 n2 m2, .int .i64 a, .int .i64 p, .int .i64 k]) ∧
    ((∃ x r, g = .ok x r ∧ k = 0 ∧ C (.agg #[.int .i64 k0, .bool b0, .bool b1, .string d, .int .i64 x0, .string t, .slice a1 n1 m1, .slice a2 n2 m2]) x) ∨ ((∃ r j, g = .no r j) ∧ k ≠ 0))
theorem TellP.good {α : Type} {C : Value → α → Prop} {g : Got α} {x : α} {r : List UInt8} (h : g = .ok x r) {k0 : Int} {b0 b1 : Bool} {d : ByteArray} {x0 : Int} {t : ByteArray} {a1 : Option Addr} {n1 m1 : Nat} {a2 : Option Addr} {n2 m2 : Nat} {a p : Int} (hC : C (.agg #[.int .i64 k0, .bool b0, .bool b1, .string d, .int .i64 x0, .string t, .slice a1 n1 m1, .slice a2 n2 m2]) x) :
    TellP C g (.returned (.agg #[.int .i64 k0, .bool b0, .bool b1, .string d, .int .i64 x0, .string t, .slice a1 n1 m1, .slice a2 n2 m2, .int .i64 a, .int .i64 p, .int .i64 0])) := ⟨_, _, _, _, _, _, _, _, _, _, _, _, _, _, _, rfl, .inl ⟨x, r, h, rfl, hC⟩⟩
theorem TellP.bad {α : Type} {C : Value → α → Prop} {j : Nat} {g : Got α} {r : List UInt8} (h : g = .no r j) {k : Int} (hk : k ≠ 0) (k0 : Int) (b0 b1 : Bool) (d : ByteArray) (x0 : Int) (t : ByteArray) (a1 : Option Addr) (n1 m1 : Nat) (a2 : Option Addr) (n2 m2 : Nat) (a p : Int) :
    TellP C g (.returned (.agg #[.int .i64 k0, .bool b0, .bool b1, .string d, .int .i64 x0, .string t, .slice a1 n1 m1, .slice a2 n2 m2, .int .i64 a, .int .i64 p, .int .i64 k])) := ⟨_, _, _, _, _, _, _, _, _, _, _, _, _, _, _, rfl, .inr ⟨⟨r, j, h⟩, hk⟩⟩
theorem parse_drop (l : List UInt8) : parse l = match value 64 (l.drop (skipAt l 0)) with
    | .no r e => .no r e
    | .ok v r => if skip r = [] then .ok v [] else .no (skip r) 14 := by
  unfold parse
  rw [skipAt_drop, List.drop_zero]
  rfl
theorem skip_past {l r : List UInt8} {n : Nat} (hr : r = l.drop n) (hn : n ≤ l.length) : skip r = [] ↔ ¬ skipAt l n < l.length := by
  rw [hr, ← skipAt_drop, List.drop_eq_nil_iff]
  omega
set_option maxRecDepth 100000 in
set_option maxHeartbeats 2000000 in
theorem rparse_any {w : World} {l : List UInt8} (hl : l.length < 100000) :
    Calls Tryz.prog 9 #[.string (txt l)] w fun e w' => TellP (HoldF w.heap.size w') (parse l) e ∧ Below w.heap.size w w' := by
  have hs := txt_size l
  have hA := World.alloc_heap_new w (.cells #[.int .i64 0, .bool false, .bool false, .string ⟨#[]⟩, .int .i64 0, .string ⟨#[]⟩, .slice none 0 0, .slice none 0 0, .int .i64 0, .int .i64 0, .int .i64 0] 31)
  have bA : Below w.heap.size w (w.alloc (.cells #[.int .i64 0, .bool false, .bool false, .string ⟨#[]⟩, .int .i64 0, .string ⟨#[]⟩, .slice none 0 0, .slice none 0 0, .int .i64 0, .int .i64 0, .int .i64 0] 31)) := (Below.refl _ w).alloc (Nat.le_refl _) _
  have hlw : w.heap.size < (w.alloc (.cells #[.int .i64 0, .bool false, .bool false, .string ⟨#[]⟩, .int .i64 0, .string ⟨#[]⟩, .slice none 0 0, .slice none 0 0, .int .i64 0, .int .i64 0, .int .i64 0] 31)).heap.size := by simp
  have hb := fun (wx : World) (p : Nat) (x : Int) => rbad_any (w := wx) (p := p) (e := x)
  simp only [badV] at hb
  have hbl : ∀ (wx : World) (i : Nat), i ≤ l.length → Calls Tryz.prog 23 #[.string (txt l), .int .i64 i] wx fun e w' => e = .returned (.int .i64 (skipAt l i)) ∧ w' = wx := fun wx i hi => rblanks_any (w := wx) hl hi
  have hv := fun (wx : World) => valR_all hl 64 (Nat.le_refl _) wx (skipAt l 0) (skipAt_le l 0)
  have hvg := value_good 64 (l.drop (skipAt l 0))
  have hp := parse_drop l
  generalize value 64 (l.drop (skipAt l 0)) = gv at *
  generalize hq : skipAt l 0 = q at *
  obtain ⟨WA, hWA⟩ : ∃ WA, w.alloc (.cells #[.int .i64 0, .bool false, .bool false, .string ⟨#[]⟩, .int .i64 0, .string ⟨#[]⟩, .slice none 0 0, .slice none 0 0, .int .i64 0, .int .i64 0, .int .i64 0] 31) = WA := ⟨_, rfl⟩
  rw [hWA] at hA bA hlw
  have HWA := Lib.hid hWA
  have HBL0 := Lib.hid (fun wx => hbl wx 0 (Nat.zero_le _))
  have HBL := Lib.hid hbl
  have HV := Lib.hid hv
  have HB := Lib.hid hb
  have HP := Lib.hid hp
  have HVG := Lib.hid hvg
  have HQ := Lib.hid hq
  have HA := Lib.hid hA
  have HBA := Lib.hid bA
  clear hWA hbl hv hb hp hvg hq hA bA
  go_enter Tryz.func9, Tryz.ntmps9
  go_wp2_with fail
  refine (HBL0.out _).mono ?_
  rintro e wx ⟨rfl, rfl⟩
  rw [HWA.out, HQ.out]
  go_wp2_with fail
  refine (HV.out _).mono ?_
  rintro e w1 ⟨⟨k0, b0, b1, dd, x0, tt, a1, n1, m1, a2, n2, m2, aa, pp, kk, rfl, hcase⟩, k1⟩
  have hN := World.alloc_heap_new w1 (.cells #[.int .i64 k0, .bool b0, .bool b1, .string dd, .int .i64 x0, .string tt, .slice a1 n1 m1, .slice a2 n2 m2, .int .i64 aa, .int .i64 pp, .int .i64 kk] 31)
  obtain ⟨W1, hW1⟩ : ∃ W1, w1.alloc (.cells #[.int .i64 k0, .bool b0, .bool b1, .string dd, .int .i64 x0, .string tt, .slice a1 n1 m1, .slice a2 n2 m2, .int .i64 aa, .int .i64 pp, .int .i64 kk] 31) = W1 := ⟨_, rfl⟩
  have k11 : Below w1.heap.size w1 W1 := by rw [← hW1]; exact (Below.refl _ w1).alloc (Nat.le_refl _) _
  rw [hW1] at hN
  have hgot := ((k1.trans (k11.mono k1.size)).block _ (lt_of_heap HA.out)).trans HA.out
  have hbel := HBA.out.trans ((k1.trans (k11.mono k1.size)).mono HBA.out.size)
  have hneM : ¬ w1.heap.size = w.heap.size := by have := k1.size; omega
  have hneM' : ¬ w.heap.size = w1.heap.size := by have := k1.size; omega
  have HH := fun (u : Value) (x : Val) (h : HoldF WA.heap.size w1 u x) => Tre.HoldF.below h k11
  have HHH := Lib.hid HH
  have HW1 := Lib.hid hW1
  obtain ⟨u0, u1, u2, u3, u4, u5, u6, u7, u8, u9, u10⟩ := eleven hN
  have hlM := lt_of_heap hN
  have hlG := lt_of_heap hgot
  clear k1 k11 hW1 HH
  go_upto_region 2 with fail
  rw [HW1.out]
  clear HW1
  rcases hcase with ⟨x, r, hve, ha, rfl, hhold⟩ | ⟨⟨r, j, hve⟩, hkne⟩
  · have hH1 := HHH.out _ _ hhold
    have hg := HVG.out
    rw [hve] at hg
    have hg1 : r <:+ l := (hg.1).trans (List.drop_suffix _ _)
    have hrl : r.length ≤ l.length := hg1.length_le
    have hrd : r = l.drop (l.length - r.length) := List.suffix_iff_eq_drop.1 hg1
    have hse := skip_past hrd (by omega)
    have hpp := HP.out
    rw [hve] at hpp
    dsimp only at hpp
    generalize hn : l.length - r.length = n at *
    have hnl : n ≤ l.length := by omega
    subst ha
    have hH1' := Lib.hid hH1
    clear hve hH1 hhold hg hg1 hrd hrl hn
    by_cases hsk : skipAt l n < l.length
    · have hdl : decide ((skipAt l n : Int) < (l.length : Int)) = true := decide_eq_true (by omega)
      have hdl2 : (skipAt l n : Int) < (l.length : Int) := by omega
      rw [if_neg (fun e => hse.1 e hsk)] at hpp
      have HPP := Lib.hid hpp
      clear hse hpp
      have HBN := Lib.hid (fun wx => HBL.out wx n hnl)
      generalize skipAt l n = sn at *
      go_wp2_with fail
      refine (HBN.out _).mono ?_
      rintro e wx ⟨rfl, rfl⟩
      go_wp2_with fail
      refine (HB.out _ _ 14).mono ?_
      rintro e w2 ⟨rfl, k2⟩
      have hgot2 := (k2.block _ (lt_of_heap hgot)).trans hgot
      have hbel2 := hbel.trans (k2.mono hbel.size)
      clear k2 u0 u1 u2 u3 u4 u5 u6 u7 u8 u9 u10
      have h9 := set11 hgot2 (.int .i64 0) (.bool false) (.bool false) (.string ⟨#[]⟩) (.int .i64 0) (.string ⟨#[]⟩) (.slice none 0 0) (.slice none 0 0) (.int .i64 0) (.int .i64 sn) (.int .i64 14)
      have b9 := below11 hbel2 (Nat.le_refl _) (.int .i64 0) (.bool false) (.bool false) (.string ⟨#[]⟩) (.int .i64 0) (.string ⟨#[]⟩) (.slice none 0 0) (.slice none 0 0) (.int .i64 0) (.int .i64 sn) (.int .i64 14)
      obtain ⟨z0, z1, z2, z3, z4, z5, z6, z7, z8, z9, z10⟩ := eleven h9
      obtain ⟨y0, y1, y2, y3, y4, y5, y6, y7, y8, y9, y10⟩ := eleven hgot2
      have qf := free_of hgot2
      have HB9 := Lib.hid b9
      clear h9 b9
      go_wp2_with fail
      refine bodyPost_ret (v := .agg #[.int .i64 0, .bool false, .bool false, .string ⟨#[]⟩, .int .i64 0, .string ⟨#[]⟩, .slice none 0 0, .slice none 0 0, .int .i64 0, .int .i64 sn, .int .i64 14]) (by simp [results, Tryz.results9, go_sem, z0, z1, z2, z3, z4, z5, z6, z7, z8, z9, z10]) rfl ⟨TellP.bad HPP.out (by decide) _ _ _ _ _ _ _ _ _ _ _ _ _ _, HB9.out⟩
    · have hdl : decide ((skipAt l n : Int) < (l.length : Int)) = false := decide_eq_false (by omega)
      have hdl2 : ¬ (skipAt l n : Int) < (l.length : Int) := by omega
      rw [if_pos (hse.2 hsk)] at hpp
      have HPP := Lib.hid hpp
      clear hse hpp
      have HBN := Lib.hid (fun wx => HBL.out wx n hnl)
      generalize skipAt l n = sn at *
      have HS := Lib.hid (holdF_set11 hH1'.out hlw (show w.heap.size ≤ WA.heap.size by omega) (.int .i64 k0) (.bool b0) (.bool b1) (.string dd) (.int .i64 x0) (.string tt) (.slice a1 n1 m1) (.slice a2 n2 m2) (.int .i64 0) (.int .i64 (-1)) (.int .i64 0))
      go_wp2_with fail
      refine (HBN.out _).mono ?_
      rintro e wx ⟨rfl, rfl⟩
      have h9 := set11 hgot (.int .i64 k0) (.bool b0) (.bool b1) (.string dd) (.int .i64 x0) (.string tt) (.slice a1 n1 m1) (.slice a2 n2 m2) (.int .i64 0) (.int .i64 (-1)) (.int .i64 0)
      have b9 := below11 hbel (Nat.le_refl _) (.int .i64 k0) (.bool b0) (.bool b1) (.string dd) (.int .i64 x0) (.string tt) (.slice a1 n1 m1) (.slice a2 n2 m2) (.int .i64 0) (.int .i64 (-1)) (.int .i64 0)
      obtain ⟨z0, z1, z2, z3, z4, z5, z6, z7, z8, z9, z10⟩ := eleven h9
      obtain ⟨y0, y1, y2, y3, y4, y5, y6, y7, y8, y9, y10⟩ := eleven hgot
      have qf := free_of hgot
      have HB9 := Lib.hid b9
      clear h9 b9
      go_wp2_with fail
      refine bodyPost_ret (v := .agg #[.int .i64 k0, .bool b0, .bool b1, .string dd, .int .i64 x0, .string tt, .slice a1 n1 m1, .slice a2 n2 m2, .int .i64 0, .int .i64 (-1), .int .i64 0]) (by simp [results, Tryz.results9, go_sem, z0, z1, z2, z3, z4, z5, z6, z7, z8, z9, z10]) rfl ⟨TellP.good HPP.out HS.out, HB9.out⟩
  · have hpp := HP.out
    rw [hve] at hpp
    have hpp : parse l = .no r j := hpp
    have HPP := Lib.hid hpp
    have hkb : (kk == 0) = false := by simpa using hkne
    have hkb2 : (kk != 0) = true := by simpa using hkne
    have HK := Lib.hid hkne
    clear hpp hve hkne

    have h9 := set11 hgot (.int .i64 k0) (.bool b0) (.bool b1) (.string dd) (.int .i64 x0) (.string tt) (.slice a1 n1 m1) (.slice a2 n2 m2) (.int .i64 aa) (.int .i64 pp) (.int .i64 kk)
    have b9 := below11 hbel (Nat.le_refl _) (.int .i64 k0) (.bool b0) (.bool b1) (.string dd) (.int .i64 x0) (.string tt) (.slice a1 n1 m1) (.slice a2 n2 m2) (.int .i64 aa) (.int .i64 pp) (.int .i64 kk)
    obtain ⟨z0, z1, z2, z3, z4, z5, z6, z7, z8, z9, z10⟩ := eleven h9
    obtain ⟨y0, y1, y2, y3, y4, y5, y6, y7, y8, y9, y10⟩ := eleven hgot
    have qf := free_of hgot
    have HB9 := Lib.hid b9
    clear h9 b9
    go_wp2_with fail
    refine bodyPost_ret (v := .agg #[.int .i64 k0, .bool b0, .bool b1, .string dd, .int .i64 x0, .string tt, .slice a1 n1 m1, .slice a2 n2 m2, .int .i64 aa, .int .i64 pp, .int .i64 kk]) (by simp [results, Tryz.results9, go_sem, z0, z1, z2, z3, z4, z5, z6, z7, z8, z9, z10]) rfl ⟨TellP.bad rfl HK.out _ _ _ _ _ _ _ _ _ _ _ _ _ _, HB9.out⟩
end Go.Proofs.YtlfbnfphocpgeaaGreatDoor.Jdec
namespace Go.Proofs.YtlfbnfphocpgeaaGreatDoor.Kit
open Go.ChangeShapes Go.WideShapes Go.ChangeAt Go.RowKit
/-- A type of numbers, flags, arrays and structs of such, whose parts fill it. -/
def plainT (P : Program) : Nat → TypeId → Bool
  | 0, _ => false
  | f + 1, t => match P.underlying t with
    | some .bool => true
    | some (.int _) => true
    | some (.array n e) => plainT P f e && (n * P.cellsOf e == P.cellsOf t)
    | some (.struct fs) => fs.toList.all (fun x => plainT P f x.type) && (List.range (P.cellsOf t)).all (fun j => (List.range fs.size).any fun i => match fs[i]? with | some x => decide (x.offset ≤ j) && decide (j < x.offset + P.cellsOf x.type) | none => false)
    | _ => false
theorem chunk_at {cs ds : List Value} {o k j : Nat} (h : (cs.drop o).take k = (ds.drop o).take k) (h1 : o ≤ j) (h2 : j < o + k) : cs[j]? = ds[j]? := by
  have := congrArg (fun l => l[j - o]?) h
  simp only [List.getElem?_take, List.getElem?_drop] at this
  rw [if_pos (by omega), if_pos (by omega), show o + (j - o) = j by omega] at this
  exact this
theorem trod_inj {H : Type} {enc : TypeId × Value → H} {P : Program} {w : World} {base : Nat} {sp : Nat → Bool} {held : Bool} : ∀ (f : Nat) (t : TypeId) (a b : Nat) (cs ds : List Value) (d : DataW H) (p q : List MemPlace),
    plainT P f t = true → DataW.trod enc P w base sp held a t cs = some (d, p) → DataW.trod enc P w base sp held b t ds = some (d, q) → cs = ds
  | 0, _, _, _, _, _, _, _, _, h, _, _ => by simp [plainT] at h
  | f + 1, t, a, b, cs, ds, d, p, q, h, h1, h2 => by
    unfold plainT at h
    split at h
    · rename_i ht
      obtain ⟨x, rfl, e1⟩ := DataW.trod_bool ht h1
      obtain ⟨y, rfl, e2⟩ := DataW.trod_bool ht h2
      rw [Prod.mk.injEq] at e1 e2
      rw [e1.1] at e2
      have := e2.1
      simp at this
      rw [this]
    · rename_i k ht
      obtain ⟨x, rfl, e1, _⟩ := DataW.trod_int ht h1
      obtain ⟨y, rfl, e2, _⟩ := DataW.trod_int ht h2
      rw [Prod.mk.injEq] at e1 e2
      rw [e1.1] at e2
      have := e2.1
      simp at this
      rw [this]
    · rename_i n e ht
      rw [Bool.and_eq_true, beq_iff_eq] at h
      obtain ⟨xs, m, _, e1, l1, n1, k1⟩ := DataW.trod_array ht h1
      obtain ⟨ys, m', _, e2, l2, n2, k2⟩ := DataW.trod_array ht h2
      rw [Prod.mk.injEq] at e1 e2
      have he : xs.map (·.1) = ys.map (·.1) := by
        have := e1.1.symm.trans e2.1
        simpa using this
      refine List.ext_getElem? fun j => ?_
      by_cases hj : j < P.cellsOf t
      · have hk : 0 < P.cellsOf e := by
          rcases Nat.eq_zero_or_pos (P.cellsOf e) with h0 | h0
          · rw [h0] at h; omega
          · exact h0
        have hi : j / P.cellsOf e < n := by
          rw [Nat.div_lt_iff_lt_mul hk, h.2]; exact hj
        obtain ⟨x, hx⟩ : ∃ x, xs[j / P.cellsOf e]? = some x := ⟨_, List.getElem?_eq_getElem (by omega)⟩
        obtain ⟨y, hy⟩ : ∃ y, ys[j / P.cellsOf e]? = some y := ⟨_, List.getElem?_eq_getElem (by omega)⟩
        have r1 := (k1 _ hi).trans hx
        have r2 := (k2 _ hi).trans hy
        have hxy : x.1 = y.1 := by
          have := congrArg (fun l => l[j / P.cellsOf e]?) he
          simpa [hx, hy] using this
        obtain ⟨x1, x2⟩ := x
        obtain ⟨y1, y2⟩ := y
        obtain rfl : x1 = y1 := hxy
        have hc := trod_inj f e _ _ _ _ _ _ _ h.1 r1 r2
        have hm := Nat.div_add_mod j (P.cellsOf e)
        have hm2 := Nat.mod_lt j hk
        rw [Nat.mul_comm] at hm
        exact chunk_at hc (by omega) (by omega)
      · rw [List.getElem?_eq_none (by omega), List.getElem?_eq_none (by omega)]
    · rename_i fs ht
      rw [Bool.and_eq_true, List.all_eq_true, List.all_eq_true] at h
      obtain ⟨xs, m, _, e1, l1, n1, k1⟩ := DataW.trod_struct ht h1
      obtain ⟨ys, m', _, e2, l2, n2, k2⟩ := DataW.trod_struct ht h2
      rw [Prod.mk.injEq] at e1 e2
      have he : xs.map (·.1) = ys.map (·.1) := by
        have := e1.1.symm.trans e2.1
        simpa using this
      refine List.ext_getElem? fun j => ?_
      by_cases hj : j < P.cellsOf t
      · have hcov := h.2 j (List.mem_range.2 hj)
        rw [List.any_eq_true] at hcov
        obtain ⟨i, hi, hb⟩ := hcov
        split at hb
        · rename_i fd hfd
          rw [Bool.and_eq_true, decide_eq_true_eq, decide_eq_true_eq] at hb
          have hi' := List.mem_range.1 hi
          obtain ⟨x, hx⟩ : ∃ x, xs[i]? = some x := ⟨_, List.getElem?_eq_getElem (by omega)⟩
          obtain ⟨y, hy⟩ : ∃ y, ys[i]? = some y := ⟨_, List.getElem?_eq_getElem (by omega)⟩
          have r1 := (k1 i fd hfd).trans hx
          have r2 := (k2 i fd hfd).trans hy
          have hxy : x.1 = y.1 := by
            have := congrArg (fun l => l[i]?) he
            simpa [hx, hy] using this
          obtain ⟨x1, x2⟩ := x
          obtain ⟨y1, y2⟩ := y
          obtain rfl : x1 = y1 := hxy
          have hpl : plainT P f fd.type = true := h.1 fd (by
            have := Array.mem_of_getElem? hfd
            simpa using this)
          exact chunk_at (trod_inj f fd.type _ _ _ _ _ _ _ hpl r1 r2) hb.1 hb.2
        · cases hb
      · rw [List.getElem?_eq_none (by omega), List.getElem?_eq_none (by omega)]
    · cases h
end Go.Proofs.YtlfbnfphocpgeaaGreatDoor.Kit
namespace Go.Proofs.YtlfbnfphocpgeaaGreatDoor.Utf
open Go.ChangeShapes Go.WideShapes Go.ChangeAt Go.RowKit Kit
theorem gKinds : Tryz.prog.globalNamed "tabularium/utf.kinds" = some 5 := by kernel_rfl
theorem tKinds : (Tryz.prog.globals[5]?).map (·.type) = some 227 := by kernel_rfl
theorem plainKinds : plainT Tryz.prog 5 227 = true := by kernel_rfl
theorem readsKinds (W : World) : DataW.trod (fun _ => ()) Tryz.prog W 0 (fun _ => true) false 5 227 kcells.toList = some (Rows.laid_tabularium_utf_kinds, []) := by kernel_rfl
end Go.Proofs.YtlfbnfphocpgeaaGreatDoor.Utf
namespace Go.Proofs.YtlfbnfphocpgeaaGreatDoor.Tre
open Go.RowKit Kit Txt
open Num (Dec zero)
theorem take_same {xs ys : List (List UInt8)} {j : Nat} (h1 : j < xs.length) (h2 : j < ys.length) (h : xs.take j = ys.take j) (e : xs[j] = ys[j]) : xs.take (j + 1) = ys.take (j + 1) := by
  rw [List.take_succ_eq_append_getElem h1, List.take_succ_eq_append_getElem h2, h, e]
theorem take_other {xs ys : List (List UInt8)} {j : Nat} (h1 : j < xs.length) (h2 : j < ys.length) (e : xs[j] ≠ ys[j]) : xs ≠ ys := by
  intro h
  subst h
  exact e rfl
set_option maxRecDepth 100000 in
set_option maxHeartbeats 4000000 in
theorem rtexts_any {w : World} {u v : Value} {xs ys : List (List UInt8)} (ha : Ks w u xs) (hb : Ks w v ys) : Calls Tryz.prog 27 #[u, v] w fun e w' => e = .returned (.bool (decide (xs = ys))) ∧ Below w.heap.size w w' := by
  obtain ⟨pa, ca, rfl, hca, hma, ha⟩ := ha
  obtain ⟨pb, cb, rfl, hcb, hmb, hb⟩ := hb
  by_cases hl : xs.length = ys.length
  · have hl' : (((xs.length : Nat) : Int) != ((ys.length : Nat) : Int)) = false := by rw [hl]; simp
    go_enter Tryz.func27, Tryz.ntmps27
    go_wp2_with fail
    go_loopw [5] (fun y wr => ∃ j : Nat, j ≤ xs.length ∧ y = .int .i64 j ∧ xs.take j = ys.take j ∧ Below w.heap.size w wr) (fun y _ => xs.length - (intOf y).toNat)
    case atStart => exact ⟨0, Nat.zero_le _, rfl, rfl, Below.refl _ _⟩
    case round =>
      obtain ⟨j, hj, rfl, hjt, bB⟩ := hrel
      by_cases hlt : j < xs.length
      · have hlt' : (j : Int) < (xs.length : Int) := by omega
        have hltb : j < ys.length := by omega
        have hltb' : (j : Int) < (ys.length : Int) := by omega
        rcases ha with rfl | ⟨ga, oa, rfl, hga, hxa⟩
        · exact absurd hlt (Nat.not_lt_zero _)
        rcases hb with rfl | ⟨gb, ob, rfl, hgb, hxb⟩
        · exact absurd hltb (Nat.not_lt_zero _)
        have c1 := (bB.cell (p := ⟨ga, oa + j, none⟩) hga).trans (hxa j _ (List.getElem?_eq_getElem hlt))
        have c2 := (bB.cell (p := ⟨gb, ob + j, none⟩) hgb).trans (hxb j _ (List.getElem?_eq_getElem hltb))
        have wk : IntKind.i64.wrap ((j : Int) + 1) = (j : Int) + 1 := by simp only [IntKind.wrap, IntKind.signed, IntKind.bits]; simp; omega
        by_cases he : xs[j] = ys[j]
        · have ht := take_same hlt hltb hjt he
          have HT := Lib.hid ht
          rw [← he] at c2
          generalize xs[j] = x at *
          clear ht hjt hxa hxb he
          go_wp2_with fail
          go_quiet (fail)
          go_wp2_with fail
          go_roundw
          case rel => exact ⟨j + 1, by omega, by go_num, HT.out, by first | exact bB | exact below_drewN bB _⟩
          case measure => simp [intOf]; omega
        · have hne := take_other hlt hltb he
          have n1 := txt_ne he
          have HN := Lib.hid (decide_eq_false hne)
          generalize xs[j] = x at *
          generalize ys[j] = y at *
          clear hxa hxb he hjt hne
          go_wp2_with fail
          go_quiet (fail)
          go_wp2_with fail
          go_ret
          exact ⟨by rw [HN.out]; rfl, by first | exact bB | exact below_drewN bB _⟩
      · obtain rfl : j = xs.length := by omega
        rw [List.take_length, hl, List.take_length] at hjt
        have HT := Lib.hid (decide_eq_true hjt)
        clear hjt
        go_wp2_with fail
        go_ret
        exact ⟨by rw [HT.out]; rfl, bB⟩
  · have hne : decide (xs = ys) = false := decide_eq_false fun e => hl (by rw [e])
    have hl' : (((xs.length : Nat) : Int) != ((ys.length : Nat) : Int)) = true := by simp; omega
    have HN := Lib.hid hne
    clear hne
    go_enter Tryz.func27, Tryz.ntmps27
    go_wp2_with fail
    go_ret
    exact ⟨by rw [HN.out]; rfl, Below.refl _ _⟩
end Go.Proofs.YtlfbnfphocpgeaaGreatDoor.Tre
namespace Go.Proofs.YtlfbnfphocpgeaaGreatDoor.Tre
open Go.RowKit Kit Txt
open Num (Dec zero)
set_option maxRecDepth 100000 in
set_option maxHeartbeats 8000000 in
theorem rsame_any : ∀ (x : Val) (y : Val) (w : World) (u v : Value), HoldV w u x → HoldV w v y → Calls Tryz.prog 11 #[u, v] w fun e w' => (∃ r : Bool, e = .returned (.bool r) ∧ (r = true ↔ x = y)) ∧ Below w.heap.size w w' := by
  refine ind1 fun x ih y w u v hx hy => ?_
  obtain ⟨k, b, n, s, ks, vs⟩ := x
  obtain ⟨k', b', n', s', ks', vs'⟩ := y
  obtain ⟨cs, rfl, hc⟩ := hx
  obtain ⟨cs', rfl, hc'⟩ := hy
  rw [Hold] at hc hc'
  obtain ⟨uk, a, c, rfl, hk, hcap, hmax, hv⟩ := hc
  obtain ⟨uk', a', c', rfl, hk', hcap', hmax', hv'⟩ := hc'
  show Calls Tryz.prog 11 #[.agg #[.int .i64 k, .bool b, .bool n.neg, .string (txt n.dig), .int .i64 n.exp, .string (txt s), uk, .slice a vs.length c], .agg #[.int .i64 k', .bool b', .bool n'.neg, .string (txt n'.dig), .int .i64 n'.exp, .string (txt s'), uk', .slice a' vs'.length c']] w _
  have hA := new_of (World.alloc_heap_new w (.cells #[.int .i64 k, .bool b, .bool n.neg, .string (txt n.dig), .int .i64 n.exp, .string (txt s), uk, .slice a vs.length c] 29)) (.cells #[.int .i64 k', .bool b', .bool n'.neg, .string (txt n'.dig), .int .i64 n'.exp, .string (txt s'), uk', .slice a' vs'.length c'] 29)
  have hB := World.alloc_heap_new (w.alloc (.cells #[.int .i64 k, .bool b, .bool n.neg, .string (txt n.dig), .int .i64 n.exp, .string (txt s), uk, .slice a vs.length c] 29)) (.cells #[.int .i64 k', .bool b', .bool n'.neg, .string (txt n'.dig), .int .i64 n'.exp, .string (txt s'), uk', .slice a' vs'.length c'] 29)
  rw [World.size_alloc] at hB
  have bA : Below w.heap.size w ((w.alloc (.cells #[.int .i64 k, .bool b, .bool n.neg, .string (txt n.dig), .int .i64 n.exp, .string (txt s), uk, .slice a vs.length c] 29)).alloc (.cells #[.int .i64 k', .bool b', .bool n'.neg, .string (txt n'.dig), .int .i64 n'.exp, .string (txt s'), uk', .slice a' vs'.length c'] 29)) := ((Below.refl _ w).alloc (Nat.le_refl _) _).alloc (by simp) _
  obtain ⟨c0, c1, c2, c3, c4, c5, c6, c7⟩ := eight hA
  obtain ⟨d0, d1, d2, d3, d4, d5, d6, d7⟩ := eight hB
  by_cases e1 : k = k'
  · by_cases e2 : b = b'
    · by_cases e3 : n = n'
      · subst e1; subst e2; subst e3
        clear c0 c1 c2 c3 c4 d0 d1 d2 d3 d4 c5 c6 c7 d5 d6 d7
        obtain ⟨c0, c1, c2, c3, c4, c5, c6, c7⟩ := eight hA
        obtain ⟨d0, d1, d2, d3, d4, d5, d6, d7⟩ := eight hB
        by_cases e4 : s = s'
        · subst e4
          have ht := fun wx (h : Below w.heap.size w wx) => rtexts_any (hk.below h) (hk'.below h)
          by_cases e5 : ks = ks'
          · subst e5
            simp only [decide_true] at ht
            by_cases e6 : vs.length = vs'.length
            · have ih' : ∀ x ∈ vs, ∀ (y : Val) (w : World) (u v : Value), HoldV w u x → HoldV w v y → Calls Tryz.prog 11 #[u, v] w fun e w' => (∃ r : Bool, e = .returned (.bool r) ∧ (r = true ↔ x = y)) ∧ Below w.heap.size w w' := ih
              clear ih c0 c1 c2 c3 c4 c5 c6 c7 d0 d1 d2 d3 d4 d5 d6 d7
              rw [← e6] at hA hB bA ⊢
              have HE := Lib.hid e6
              clear e6 hcap'
              obtain ⟨c0, c1, c2, c3, c4, c5, c6, c7⟩ := eight hA
              obtain ⟨d0, d1, d2, d3, d4, d5, d6, d7⟩ := eight hB
              go_enter Tryz.func11, Tryz.ntmps11
              go_wp2_with fail
              refine (ht _ bA).mono ?_
              rintro e w1 ⟨rfl, k1⟩
              have b1 := bA.trans (k1.mono bA.size)
              have hA1 := (k1.block _ (lt_of_heap hA)).trans hA
              have hB1 := (k1.block _ (lt_of_heap hB)).trans hB
              clear c0 c1 c2 c3 c4 c5 c6 c7 d0 d1 d2 d3 d4 d5 d6 d7 hA hB bA k1 ht
              obtain ⟨c0, c1, c2, c3, c4, c5, c6, c7⟩ := eight hA1
              obtain ⟨d0, d1, d2, d3, d4, d5, d6, d7⟩ := eight hB1
              go_wp2_with fail
              clear c0 c1 c2 c3 c4 c5 c6 c7 d0 d1 d2 d3 d4 d5 d6 d7
              go_loopw [5] (fun y wr => ∃ j : Nat, j ≤ vs.length ∧ y = .int .i64 j ∧ vs.take j = vs'.take j ∧
                wr.heap[w.heap.size]? = some (.cells #[.int .i64 k, .bool b, .bool n.neg, .string (txt n.dig), .int .i64 n.exp, .string (txt s), uk, .slice a vs.length c] 29 (0, 0)) ∧
                wr.heap[w.heap.size + 1]? = some (.cells #[.int .i64 k, .bool b, .bool n.neg, .string (txt n.dig), .int .i64 n.exp, .string (txt s), uk', .slice a' vs.length c'] 29 (0, 0)) ∧ Below w.heap.size w wr) (fun y _ => vs.length - (intOf y).toNat)
              case atStart => exact ⟨0, Nat.zero_le _, rfl, rfl, hA1, hB1, b1⟩
              case round =>
                obtain ⟨j, hj, rfl, hjt, hA2, hB2, bB⟩ := hrel
                obtain ⟨-, -, -, -, -, -, -, p7⟩ := eight hA2
                obtain ⟨-, -, -, -, -, -, -, q7⟩ := eight hB2
                by_cases hlt : j < vs.length
                · have hlt' : (j : Int) < (vs.length : Int) := by omega
                  have hltb : j < vs'.length := by rw [← HE.out]; exact hlt
                  rcases hv with rfl | ⟨ga, oa, rfl, hga, hxa⟩
                  · exact absurd hlt (Nat.not_lt_zero _)
                  rcases hv' with rfl | ⟨gb, ob, rfl, hgb, hxb⟩
                  · exact absurd hltb (Nat.not_lt_zero _)
                  obtain ⟨cx, hx8, hxx⟩ := Holds.at hxa (List.getElem?_eq_getElem hlt)
                  obtain ⟨cy, hy8, hyy⟩ := Holds.at hxb (List.getElem?_eq_getElem hltb)
                  have hx8 := hx8.below hga bB
                  have hy8 := hy8.below hgb bB
                  have hcall := fun wx u v => ih' vs[j] (List.getElem_mem hlt) vs'[j] wx u v
                  have hsnoc : vs[j] = vs'[j] → vs.take (j + 1) = vs'.take (j + 1) := fun e => by rw [List.take_succ_eq_append_getElem hlt, List.take_succ_eq_append_getElem hltb, hjt, e]
                  have hoff : vs[j] ≠ vs'[j] → vs ≠ vs' := fun e h => e (by subst h; rfl)
                  generalize vs[j] = x at *
                  generalize vs'[j] = y at *
                  obtain ⟨k1, b1', n1, s1, ks1, vs1⟩ := x
                  obtain ⟨k2, b2', n2, s2, ks2, vs2⟩ := y
                  have hxx2 := hxx
                  have hyy2 := hyy
                  rw [Hold] at hxx2 hyy2
                  obtain ⟨uk1, a1, c1, rfl, -, -, -, -⟩ := hxx2
                  obtain ⟨uk2, a2, c2, rfl, -, -, -, -⟩ := hyy2
                  obtain ⟨x0, x1, x2, x3, x4, x5, x6, x7⟩ := hx8.cells
                  obtain ⟨y0, y1, y2, y3, y4, y5, y6, y7⟩ := hy8.cells
                  have hcall' := hcall _ (.agg #[.int .i64 k1, .bool b1', .bool n1.neg, .string (txt n1.dig), .int .i64 n1.exp, .string (txt s1), uk1, .slice a1 vs1.length c1]) (.agg #[.int .i64 k2, .bool b2', .bool n2.neg, .string (txt n2.dig), .int .i64 n2.exp, .string (txt s2), uk2, .slice a2 vs2.length c2]) ⟨_, rfl, Hold.below (bB.trans (below_drewN (Below.refl _ _) 1 |>.mono bB.size)) _ hxx⟩ ⟨_, rfl, Hold.below (bB.trans (below_drewN (Below.refl _ _) 1 |>.mono bB.size)) _ hyy⟩
                  have wk : IntKind.i64.wrap ((j : Int) + 1) = (j : Int) + 1 := by simp only [IntKind.wrap, IntKind.signed, IntKind.bits]; simp; omega
                  have hgl := Nat.lt_of_lt_of_le hga bB.size
                  have hgl' := Nat.lt_of_lt_of_le hgb bB.size
                  have hal := lt_of_heap hA2
                  have hbl := lt_of_heap hB2
                  have HS := Lib.hid hsnoc
                  have HO := Lib.hid hoff
                  have HA := Lib.hid hA2
                  have HB := Lib.hid hB2
                  clear hx8 hy8 hxx hyy hcall hxa hxb hsnoc hoff hjt ih' hA2 hB2 hA1 hB1 hk hk'
                  go_wp2_with fail
                  go_region_held3 (fun wx => wx.cell? ⟨w.heap.size, 7, none⟩ = some (.slice (some ⟨ga, oa, none⟩) vs.length c) ∧ wx.cell? ⟨w.heap.size + 1, 7, none⟩ = some (.slice (some ⟨gb, ob, none⟩) vs.length c') ∧ wx.cell? ⟨ga, oa + j * 8, none⟩ = some (.int .i64 k1) ∧ wx.cell? ⟨ga, oa + j * 8 + 1, none⟩ = some (.bool b1') ∧ wx.cell? ⟨ga, oa + j * 8 + 2, none⟩ = some (.bool n1.neg) ∧ wx.cell? ⟨ga, oa + j * 8 + 3, none⟩ = some (.string (txt n1.dig)) ∧ wx.cell? ⟨ga, oa + j * 8 + 4, none⟩ = some (.int .i64 n1.exp) ∧ wx.cell? ⟨ga, oa + j * 8 + 5, none⟩ = some (.string (txt s1)) ∧ wx.cell? ⟨ga, oa + j * 8 + 6, none⟩ = some uk1 ∧ wx.cell? ⟨ga, oa + j * 8 + 7, none⟩ = some (.slice a1 vs1.length c1) ∧ wx.cell? ⟨gb, ob + j * 8, none⟩ = some (.int .i64 k2) ∧ wx.cell? ⟨gb, ob + j * 8 + 1, none⟩ = some (.bool b2') ∧ wx.cell? ⟨gb, ob + j * 8 + 2, none⟩ = some (.bool n2.neg) ∧ wx.cell? ⟨gb, ob + j * 8 + 3, none⟩ = some (.string (txt n2.dig)) ∧ wx.cell? ⟨gb, ob + j * 8 + 4, none⟩ = some (.int .i64 n2.exp) ∧ wx.cell? ⟨gb, ob + j * 8 + 5, none⟩ = some (.string (txt s2)) ∧ wx.cell? ⟨gb, ob + j * 8 + 6, none⟩ = some uk2 ∧ wx.cell? ⟨gb, ob + j * 8 + 7, none⟩ = some (.slice a2 vs2.length c2))
                    (first | assumption | go_keep)
                    (first | (go_at_call 11; refine hcall'.mono ?_; rintro e wx ⟨⟨r, rfl, hr⟩, kx⟩; have m0 := (kx.cell (World.block_lt_of_cell? _ _ p7)).trans p7; have m1 := (kx.cell (World.block_lt_of_cell? _ _ q7)).trans q7; have m2 := (kx.cell (World.block_lt_of_cell? _ _ x0)).trans x0; have m3 := (kx.cell (World.block_lt_of_cell? _ _ x1)).trans x1; have m4 := (kx.cell (World.block_lt_of_cell? _ _ x2)).trans x2; have m5 := (kx.cell (World.block_lt_of_cell? _ _ x3)).trans x3; have m6 := (kx.cell (World.block_lt_of_cell? _ _ x4)).trans x4; have m7 := (kx.cell (World.block_lt_of_cell? _ _ x5)).trans x5; have m8 := (kx.cell (World.block_lt_of_cell? _ _ x6)).trans x6; have m9 := (kx.cell (World.block_lt_of_cell? _ _ x7)).trans x7; have m10 := (kx.cell (World.block_lt_of_cell? _ _ y0)).trans y0; have m11 := (kx.cell (World.block_lt_of_cell? _ _ y1)).trans y1; have m12 := (kx.cell (World.block_lt_of_cell? _ _ y2)).trans y2; have m13 := (kx.cell (World.block_lt_of_cell? _ _ y3)).trans y3; have m14 := (kx.cell (World.block_lt_of_cell? _ _ y4)).trans y4; have m15 := (kx.cell (World.block_lt_of_cell? _ _ y5)).trans y5; have m16 := (kx.cell (World.block_lt_of_cell? _ _ y6)).trans y6; have m17 := (kx.cell (World.block_lt_of_cell? _ _ y7)).trans y7; have bx := (bB.trans (below_drewN (Below.refl _ _) 1 |>.mono bB.size)).trans (kx.mono bB.size); have hAx := (kx.block _ hal).trans HA.out; have hBx := (kx.block _ hbl).trans HB.out))
                  cases r with
                  | true =>
                    go_wp2_with fail
                    go_roundw
                    case rel => exact ⟨j + 1, by omega, by go_num, HS.out (hr.1 rfl), hAx, hBx, bx⟩
                    case measure => simp [intOf]; omega
                  | false =>
                    have hno := HO.out fun e => by have := hr.2 e; cases this
                    go_wp2_with fail
                    go_ret
                    exact ⟨⟨false, rfl, by simp; exact hno⟩, bx⟩
                · obtain rfl : j = vs.length := by omega
                  rw [List.take_length, HE.out, List.take_length] at hjt
                  have HT := Lib.hid hjt
                  clear hjt
                  go_wp2_with fail
                  go_ret
                  exact ⟨⟨true, rfl, by simp; exact HT.out⟩, bB⟩
            · have HN : ¬ (Val.mk k b n s ks vs = Val.mk k b n s ks vs') := fun e => e6 (by injection e with _ _ _ _ _ e; rw [e])
              have e6' : (((vs.length : Nat) : Int) == ((vs'.length : Nat) : Int)) = false := by simp; omega
              go_enter Tryz.func11, Tryz.ntmps11
              go_wp2_with fail
              refine (ht _ bA).mono ?_
              rintro e w1 ⟨rfl, k1⟩
              have b1 := bA.trans (k1.mono bA.size)
              have hA1 := (k1.block _ (lt_of_heap hA)).trans hA
              have hB1 := (k1.block _ (lt_of_heap hB)).trans hB
              obtain ⟨p0, p1, p2, p3, p4, p5, p6, p7⟩ := eight hA1
              obtain ⟨q0, q1, q2, q3, q4, q5, q6, q7⟩ := eight hB1
              go_wp2_with fail
              go_ret
              exact ⟨⟨false, rfl, by simp [HN]⟩, b1⟩
          · have HN : ¬ (Val.mk k b n s ks vs = Val.mk k b n s ks' vs') := fun e => e5 (by injection e)
            simp only [decide_eq_false e5] at ht
            go_enter Tryz.func11, Tryz.ntmps11
            go_wp2_with fail
            refine (ht _ bA).mono ?_
            rintro e w1 ⟨rfl, k1⟩
            have b1 := bA.trans (k1.mono bA.size)
            go_wp2_with fail
            go_ret
            exact ⟨⟨false, rfl, by simp [HN]⟩, b1⟩
        · have HN : ¬ (Val.mk k b n s ks vs = Val.mk k b n s' ks' vs') := fun e => e4 (by injection e)
          have e4' := txt_ne e4
          go_enter Tryz.func11, Tryz.ntmps11
          go_wp2_with fail
          go_ret
          exact ⟨⟨false, rfl, by simp [HN]⟩, bA⟩
      · have HN : ¬ (Val.mk k b n s ks vs = Val.mk k' b' n' s' ks' vs') := fun e => e3 (by injection e)
        subst e1; subst e2
        obtain ⟨g1, g2, g3⟩ := n
        obtain ⟨g1', g2', g3'⟩ := n'
        dsimp only at *
        have hd : (g1 == g1') = false ∨ (g1 = g1' ∧ ((txt g2).toList == (txt g2').toList) = false) ∨ (g1 = g1' ∧ g2 = g2' ∧ (g3 == g3') = false) := by
          by_cases f1 : g1 = g1'
          · by_cases f2 : g2 = g2'
            · by_cases f3 : g3 = g3'
              · exact absurd (by rw [f1, f2, f3]) e3
              · exact .inr (.inr ⟨f1, f2, by simpa using f3⟩)
            · exact .inr (.inl ⟨f1, txt_ne f2⟩)
          · exact .inl (by simpa using f1)
        clear e3
        rcases hd with h1 | ⟨rfl, h1⟩ | ⟨rfl, rfl, h1⟩
        all_goals
          go_enter Tryz.func11, Tryz.ntmps11
          go_wp2_with fail
          go_ret
          exact ⟨⟨false, rfl, by simp [HN]⟩, bA⟩
    · have HN : ¬ (Val.mk k b n s ks vs = Val.mk k' b' n' s' ks' vs') := fun e => e2 (by injection e)
      subst e1
      have e2' : (b == b') = false := by simpa using e2
      go_enter Tryz.func11, Tryz.ntmps11
      go_wp2_with fail
      go_ret
      exact ⟨⟨false, rfl, by simp [HN]⟩, bA⟩
  · have HN : ¬ (Val.mk k b n s ks vs = Val.mk k' b' n' s' ks' vs') := fun e => e1 (by injection e)
    have e1' : (k == k') = false := by simpa using e1
    go_enter Tryz.func11, Tryz.ntmps11
    go_wp2_with fail
    go_ret
    exact ⟨⟨false, rfl, by simp [HN]⟩, bA⟩
end Go.Proofs.YtlfbnfphocpgeaaGreatDoor.Tre
namespace Go.Proofs.YtlfbnfphocpgeaaGreatDoor.Jdec
open Go.ChangeShapes Go.WideShapes Go.ChangeAt Go.RowKit Kit
theorem gNext : Tryz.prog.globalNamed "tabularium/num.next" = some 0 := by kernel_rfl
theorem tNext : (Tryz.prog.globals[0]?).map (·.type) = some 129 := by kernel_rfl
theorem plainNext : plainT Tryz.prog 5 129 = true := by kernel_rfl
theorem readsNext (W : World) : DataW.trod (fun _ => ()) Tryz.prog W 0 (fun _ => true) false 5 129 Num.tcells.toList = some (Rows.laid_tabularium_num_next, []) := by kernel_rfl
/-- One listed variable. -/
theorem listed {P : Program} {w : World} : ∀ {l : List (String × DataW Unit)} {ps : List MemPlace}, DataW.LaidVars P w l ps → ∀ {n : String} {d : DataW Unit}, (n, d) ∈ l →
    ∃ g t cs f p, P.globalNamed n = some g ∧ (P.globals[g]?).map (·.type) = some t ∧ w.var? P n = some cs ∧ DataW.trod (fun _ => ()) P w 0 (fun _ => true) false f t cs.toList = some (d, p)
  | [], _, _, _, _, hm => by cases hm
  | (n', d') :: r, ps, h, n, d, hm => by
    obtain ⟨g, t, cs, fuel, p, q, h1, h2, h3, h4, h5, _⟩ := h
    rcases List.mem_cons.1 hm with e | e
    · cases e
      exact ⟨g, t, cs, fuel, p, h1, h2, h3, h4⟩
    · exact listed h5 e
theorem laid_ok {W : World} {laid : List (String × DataW Unit)} (h : laidMetH Tryz.prog laid W) (hp : (laid.all fun x => x.2.handleName?.isNone) = true)
    (h1 : ("tabularium/num.next", Rows.laid_tabularium_num_next) ∈ laid) (h2 : ("tabularium/utf.kinds", Rows.laid_tabularium_utf_kinds) ∈ laid) : Ok W := by
  rw [MakeChecks.laidMetH_plain _ _ _ hp] at h
  obtain ⟨ps, hv, _⟩ := h
  constructor
  · obtain ⟨g, t, cs, f, p, hg, ht, hvr, hd⟩ := listed hv h2
    obtain rfl := Option.some.inj (Utf.gKinds.symm.trans hg)
    obtain rfl := Option.some.inj (Utf.tKinds.symm.trans ht)
    have e := trod_inj 5 227 _ _ _ _ _ _ _ Utf.plainKinds hd (Utf.readsKinds W)
    unfold World.var? at hvr
    rw [Utf.gKinds] at hvr
    simp only [Option.bind_some] at hvr
    split at hvr
    · rename_i c ty fr hh
      have : c = cs := Option.some.inj hvr
      subst this
      have : c = Utf.kcells := by
        rw [← Array.toArray_toList (xs := c), e]
      subst this
      exact ⟨_, _, hh⟩
    · cases hvr
  · obtain ⟨g, t, cs, f, p, hg, ht, hvr, hd⟩ := listed hv h1
    obtain rfl := Option.some.inj (gNext.symm.trans hg)
    obtain rfl := Option.some.inj (tNext.symm.trans ht)
    have e := trod_inj 5 129 _ _ _ _ _ _ _ plainNext hd (readsNext W)
    unfold World.var? at hvr
    rw [gNext] at hvr
    simp only [Option.bind_some] at hvr
    split at hvr
    · rename_i c ty fr hh
      have : c = cs := Option.some.inj hvr
      subst this
      have : c = Num.tcells := by
        rw [← Array.toArray_toList (xs := c), e]
      subst this
      exact ⟨_, _, hh⟩
    · cases hvr
end Go.Proofs.YtlfbnfphocpgeaaGreatDoor.Jdec
namespace Go.Proofs.YtlfbnfphocpgeaaGreatDoor.Jdec
open Tre (Val)
theorem wscan (r : List UInt8) : Quo.scan (34 :: 97 :: 34 :: r) = ⟨[97], 3, 0⟩ := by
  have hp : Quo.part (97 :: 34 :: r) = ⟨[97], 1, 0⟩ := by
    have h1 := Quo.part_lo (c := 97) (by decide) (34 :: r)
    rw [show Quo.esc 97 = [97] by decide] at h1
    exact h1
  unfold Quo.scan
  dsimp only
  rw [if_neg (by decide), Quo.scanF_step (p := ⟨[97], 1, 0⟩) (l' := 34 :: r) (by simp) hp rfl rfl, Quo.scanF_end rfl]
  rfl
def one : Val := ⟨3, false, ⟨false, [49], 0⟩, [], [], []⟩
def two : Val := ⟨3, false, ⟨false, [50], 0⟩, [], [], []⟩
theorem n1a : number [49, 44, 50, 93, 125] = .ok one [44, 50, 93, 125] := by
  have h1 : Num.scan [49, 44, 50, 93, 125] = 1 := by decide +kernel
  have h2 : Num.parse [49] = (⟨false, [49], 0⟩, 0) := by decide +kernel
  unfold number
  rw [h1]
  simp [h2, one]
theorem n2a : number [50, 93, 125] = .ok two [93, 125] := by
  have h1 : Num.scan [50, 93, 125] = 1 := by decide +kernel
  have h2 : Num.parse [50] = (⟨false, [50], 0⟩, 0) := by decide +kernel
  unfold number
  rw [h1]
  simp [h2, two]
theorem n1b : number [49, 44, 93] = .ok one [44, 93] := by
  have h1 : Num.scan [49, 44, 93] = 1 := by decide +kernel
  have h2 : Num.parse [49] = (⟨false, [49], 0⟩, 0) := by decide +kernel
  unfold number
  rw [h1]
  simp [h2, one]
theorem n1c : number [49, 44, 34, 97, 34, 58, 50, 125] = .ok one [44, 34, 97, 34, 58, 50, 125] := by
  have h1 : Num.scan [49, 44, 34, 97, 34, 58, 50, 125] = 1 := by decide +kernel
  have h2 : Num.parse [49] = (⟨false, [49], 0⟩, 0) := by decide +kernel
  unfold number
  rw [h1]
  simp [h2, one]
theorem val_num (K : Nat) {c : UInt8} {r : List UInt8} (h : digit c = true) : value (K + 1) (c :: r) = number (c :: r) := by
  have hb : begins c = true := by unfold begins; rw [h]; simp
  simp [value, hb, read, h]
theorem val_many (K : Nat) {c : UInt8} {r : List UInt8} (h : c = 91 ∨ c = 123) : value (K + 1) (c :: r) = many (value K) (c :: r) := by
  rcases h with rfl | rfl <;> rfl
theorem skip_id {c : UInt8} {r : List UInt8} (h : blank c = false) : skip (c :: r) = c :: r := by
  unfold skip
  rw [List.dropWhile_cons, if_neg (by rw [h]; decide)]
theorem val_bad (K : Nat) {c : UInt8} {r : List UInt8} (h : begins c = false) : value K (c :: r) = .no (c :: r) 3 := by
  cases K <;> simp [value, h]
theorem at_close (val : List UInt8 → Got Val) (obj first : Bool) (keys : List (List UInt8)) (kids : List Val) (r : List UInt8) : atHead val obj first keys kids (close obj :: r) = .ok (made obj keys kids) r := if_pos rfl
theorem at_first (val : List UInt8 → Got Val) {obj : Bool} (keys : List (List UInt8)) (kids : List Val) {c : UInt8} {r : List UInt8} (h : c ≠ close obj) : atHead val obj true keys kids (c :: r) = items val obj keys kids (c :: r) := by
  unfold atHead
  rw [if_neg (by simpa using h), if_pos rfl]
theorem at_comma (val : List UInt8 → Got Val) (obj : Bool) (keys : List (List UInt8)) (kids : List Val) (r : List UInt8) : atHead val obj false keys kids (44 :: r) = items val obj keys kids (skip r) := by
  have h1 : ¬ ((44 :: r).head? = some (close obj)) := by cases obj <;> simp [close]
  have h2 : ¬ (false = true) := by decide
  have h3 : ¬ ((44 :: r).head? ≠ some 44) := by simp
  unfold atHead
  rw [if_neg h1, if_neg h2, if_neg h3]
  rfl
theorem part_list {val : List UInt8 → Got Val} {keys : List (List UInt8)} {l r : List UInt8} {x : Val} (h : val l = .ok x r) : part val false keys l = .ok (keys, x) r := by
  unfold part
  rw [show named false keys l = .ok keys l from rfl]
  dsimp only
  rw [h]
theorem part_list_no {val : List UInt8 → Got Val} {keys : List (List UInt8)} {l r : List UInt8} {e : Nat} (h : val l = .no r e) : part val false keys l = .no r e := by
  unfold part
  rw [show named false keys l = .ok keys l from rfl]
  dsimp only
  rw [h]
theorem part_objs {val : List UInt8 → Got Val} {keys : List (List UInt8)} {l r1 r k : List UInt8} {x : Val} (hf : field keys l = .ok k r1) (h : val r1 = .ok x r) : part val true keys l = .ok (keys ++ [k], x) r := by
  unfold part
  rw [show named true keys l = (match field keys l with | .ok k r => .ok (keys ++ [k]) r | .no r e => .no r e) from rfl, hf]
  dsimp only
  rw [h]
theorem part_objs_no {val : List UInt8 → Got Val} {keys : List (List UInt8)} {l r : List UInt8} {e : Nat} (hf : field keys l = .no r e) : part val true keys l = .no r e := by
  unfold part
  rw [show named true keys l = (match field keys l with | .ok k r => .ok (keys ++ [k]) r | .no r e => .no r e) from rfl, hf]
theorem field_a (keys : List (List UInt8)) (hk : [97] ∉ keys) {c : UInt8} {r : List UInt8} (hc : blank c = false) : field keys (34 :: 97 :: 34 :: 58 :: c :: r) = .ok [97] (c :: r) := by
  rw [field_eq, wscan]
  dsimp only
  rw [if_neg (by decide), if_neg hk, show (34 :: 97 :: 34 :: 58 :: c :: r).drop 3 = 58 :: c :: r from rfl, skip_id (by decide), if_neg (by simp [wantE]), List.tail_cons, skip_id hc]
theorem field_twice {keys : List (List UInt8)} (hk : [97] ∈ keys) (r : List UInt8) : field keys (34 :: 97 :: 34 :: r) = .no (34 :: 97 :: 34 :: r) 6 := by
  rw [field_eq, wscan]
  dsimp only
  rw [if_neg (by decide), if_pos hk]
/-- [1,2] and what stands behind. -/
theorem wlist (K : Nat) : value (K + 2) [91, 49, 44, 50, 93, 125] = .ok (made false [] [one, two]) [125] := by
  rw [val_many (K + 1) (.inl rfl), many_head (obj := false) rfl, List.tail_cons, skip_id (by decide), at_first _ _ _ (by decide),
    items_ok (value_good (K + 1)) (part_list ((val_num K (by decide)).trans n1a)), skip_id (by decide), at_comma, skip_id (by decide),
    items_ok (value_good (K + 1)) (part_list ((val_num K (by decide)).trans n2a)), skip_id (by decide)]
  exact at_close _ false false [] [one, two] [125]
theorem wake1 : parse [123, 34, 97, 34, 58, 91, 49, 44, 50, 93, 125] = .ok (made true [[97]] [made false [] [one, two]]) [] := by
  have h : value 64 [123, 34, 97, 34, 58, 91, 49, 44, 50, 93, 125] = .ok (made true [[97]] [made false [] [one, two]]) [] := by
    rw [val_many 63 (.inr rfl), many_head (obj := true) rfl, List.tail_cons, skip_id (by decide), at_first _ _ _ (by decide),
      items_ok (value_good 63) (part_objs (field_a [] (by simp) (by decide)) (wlist 61)), skip_id (by decide)]
    exact at_close _ true false [[97]] _ []
  unfold parse
  rw [skip_id (by decide), h]
  rfl
theorem wake2 : parse [91, 49, 44, 93] = .no [93] 3 := by
  have h : value 64 [91, 49, 44, 93] = .no [93] 3 := by
    rw [val_many 63 (.inl rfl), many_head (obj := false) rfl, List.tail_cons, skip_id (by decide), at_first _ _ _ (by decide),
      items_ok (value_good 63) (part_list ((val_num 62 (by decide)).trans n1b)), skip_id (by decide), at_comma, skip_id (by decide),
      items_no _ _ (part_list_no (val_bad 63 (by decide)))]
  unfold parse
  rw [skip_id (by decide), h]
theorem wake3 : parse [123, 34, 97, 34, 58, 49, 44, 34, 97, 34, 58, 50, 125] = .no [34, 97, 34, 58, 50, 125] 6 := by
  have h : value 64 [123, 34, 97, 34, 58, 49, 44, 34, 97, 34, 58, 50, 125] = .no [34, 97, 34, 58, 50, 125] 6 := by
    rw [val_many 63 (.inr rfl), many_head (obj := true) rfl, List.tail_cons, skip_id (by decide), at_first _ _ _ (by decide),
      items_ok (value_good 63) (part_objs (field_a [] (by simp) (by decide)) ((val_num 62 (by decide)).trans n1c)), skip_id (by decide), at_comma, skip_id (by decide),
      items_no _ _ (part_objs_no (field_twice (by simp) _))]
  unfold parse
  rw [skip_id (by decide), h]
end Go.Proofs.YtlfbnfphocpgeaaGreatDoor.Jdec
namespace Go.Proofs.YtlfbnfphocpgeaaGreatDoor.Jdec
open Go.RowKit Kit Txt
open Tre (Val HoldF HoldV zeroV)
theorem wcall1 {w : World} (ho : Ok w) : Calls Tryz.prog 10 #[.string ⟨#[123, 34, 97, 34, 58, 91, 49, 44, 50, 93, 125]⟩] w fun e w' => (∃ (ak av : Option Addr) (lk lv ck cv : Nat), e = .returned (.tuple #[.agg #[.int .i64 6, .bool false, .bool false, .string ⟨#[]⟩, .int .i64 0, .string ⟨#[]⟩, .slice ak lk ck, .slice av lv cv], .int .i64 (-1), .int .i64 0])) ∧ Below w.heap.size w w' := by
  refine (jparse_all (w := w) (s := [123, 34, 97, 34, 58, 91, 49, 44, 50, 93, 125]) (by decide) ho).mono ?_
  rintro e w' ⟨k, h⟩
  rw [wake1] at h
  obtain ⟨y, rfl, hy⟩ := h
  obtain ⟨pk, ck, a, c, rfl⟩ := holdF_form hy
  exact ⟨⟨_, _, _, _, _, _, rfl⟩, k⟩
theorem wcall2 {w : World} (ho : Ok w) : Calls Tryz.prog 10 #[.string ⟨#[91, 49, 44, 93]⟩] w fun e w' => e = .returned (.tuple #[zeroV, .int .i64 3, .int .i64 3]) ∧ Below w.heap.size w w' := by
  refine (jparse_all (w := w) (s := [91, 49, 44, 93]) (by decide) ho).mono ?_
  rintro e w' ⟨k, h⟩
  rw [wake2] at h
  exact ⟨h, k⟩
theorem wcall3 {w : World} (ho : Ok w) : Calls Tryz.prog 10 #[.string ⟨#[123, 34, 97, 34, 58, 49, 44, 34, 97, 34, 58, 50, 125]⟩] w fun e w' => e = .returned (.tuple #[zeroV, .int .i64 7, .int .i64 6]) ∧ Below w.heap.size w w' := by
  refine (jparse_all (w := w) (s := [123, 34, 97, 34, 58, 49, 44, 34, 97, 34, 58, 50, 125]) (by decide) ho).mono ?_
  rintro e w' ⟨k, h⟩
  rw [wake3] at h
  exact ⟨h, k⟩
set_option maxRecDepth 100000 in
set_option maxHeartbeats 8000000 in
theorem wakes_any {w : World} (ho : Ok w) : Calls Tryz.prog 8 #[] w fun e w' => e = .returned (.bool true) ∧ Below w.heap.size w w' := by
  have h1 := Lib.hid (wcall1 ho)
  have h2 := Lib.hid (fun (wx : World) (h : Ok wx) => wcall2 h)
  have h3 := Lib.hid (fun (wx : World) (h : Ok wx) => wcall3 h)
  unfold zeroV at h2 h3
  go_enter Tryz.func8, Tryz.ntmps8
  go_wp2_with fail
  refine h1.out.mono ?_
  rintro e w1 ⟨⟨ak, av, lk, lv, ck, cv, rfl⟩, k1⟩
  have b1 := k1.alloc k1.size (.cells #[.int .i64 6, .bool false, .bool false, .string ⟨#[]⟩, .int .i64 0, .string ⟨#[]⟩, .slice ak lk ck, .slice av lv cv] 29)
  have hA := World.alloc_heap_new w1 (.cells #[.int .i64 6, .bool false, .bool false, .string ⟨#[]⟩, .int .i64 0, .string ⟨#[]⟩, .slice ak lk ck, .slice av lv cv] 29)
  have HB1 := Lib.hid b1
  have HA := Lib.hid hA
  clear b1 hA k1
  go_wp2_with fail
  refine (h2.out _ (ho.below HB1.out)).mono ?_
  rintro e w2 ⟨rfl, k2⟩
  have b2 := (HB1.out.trans (k2.mono HB1.out.size))
  have hA2 := (k2.block _ (by simp)).trans HA.out
  have b3 := b2.alloc b2.size (.cells #[.int .i64 0, .bool false, .bool false, .string ⟨#[]⟩, .int .i64 0, .string ⟨#[]⟩, .slice none 0 0, .slice none 0 0] 29)
  have hA3 := new_of hA2 (.cells #[.int .i64 0, .bool false, .bool false, .string ⟨#[]⟩, .int .i64 0, .string ⟨#[]⟩, .slice none 0 0, .slice none 0 0] 29)
  have HB3 := Lib.hid b3
  have HA3 := Lib.hid hA3
  clear b2 hA2 b3 hA3 k2
  go_wp2_with fail
  refine (h3.out _ (ho.below HB3.out)).mono ?_
  rintro e w4 ⟨rfl, k4⟩
  have b4 := (HB3.out.trans (k4.mono HB3.out.size))
  have hA4 := (k4.block _ (lt_of_heap HA3.out)).trans HA3.out
  have b5 := b4.alloc b4.size (.cells #[.int .i64 0, .bool false, .bool false, .string ⟨#[]⟩, .int .i64 0, .string ⟨#[]⟩, .slice none 0 0, .slice none 0 0] 29)
  obtain ⟨c0, -, -, -, -, -, -, -⟩ := eight hA4
  have hlt := lt_of_heap hA4
  have HB5 := Lib.hid b5
  clear b4 hA4 b5 k4
  go_wp2_with fail
  go_ret
  exact ⟨rfl, HB5.out⟩
end Go.Proofs.YtlfbnfphocpgeaaGreatDoor.Jdec
namespace Go.Proofs.YtlfbnfphocpgeaaGreatDoor.Jdec
open Go.RowKit Kit Txt
open Tre (Val HoldF HoldV zeroV none' rsame_any)
theorem zero_hold (w : World) : HoldV w zeroV none' := ⟨_, rfl, by
  show Tre.Hold w _ ⟨0, false, Num.zero, [], [], []⟩
  rw [Tre.Hold]
  exact ⟨_, none, 0, rfl, ⟨none, 0, rfl, Nat.le_refl _, by omega, .inl rfl⟩, Nat.le_refl _, by omega, .inl rfl⟩⟩
theorem same_true {w : World} {x y : Val} {u v : Value} (hx : HoldV w u x) (hy : HoldV w v y) (e : x = y) : Calls Tryz.prog 11 #[u, v] w fun e w' => e = .returned (.bool true) ∧ Below w.heap.size w w' :=
  (rsame_any x y w u v hx hy).mono fun _ _ ⟨⟨r, he, hr⟩, k⟩ => ⟨by rw [he, hr.2 e], k⟩
end Go.Proofs.YtlfbnfphocpgeaaGreatDoor.Jdec
namespace Go.Proofs.YtlfbnfphocpgeaaGreatDoor.Jdec
open Go.RowKit Kit Txt
open Tre (Val HoldF HoldV zeroV none' rsame_any)
theorem ParseTold.form {s : List UInt8} {w : World} {e : Ending} {w' : World} (h : ParseTold s w e w') : ∃ (k : Int) (b : Bool) (n : Num.Dec) (t : List UInt8) (pk : Option Addr) (lk ck : Nat) (a : Option Addr) (lv c : Nat) (p ek : Int),
    e = .returned (.tuple #[.agg #[.int .i64 k, .bool b, .bool n.neg, .string (txt n.dig), .int .i64 n.exp, .string (txt t), .slice pk lk ck, .slice a lv c], .int .i64 p, .int .i64 ek]) := by
  obtain ⟨-, h⟩ := h
  cases hp : parse s with
  | ok v r =>
    rw [hp] at h
    obtain ⟨y, rfl, hy⟩ := h
    obtain ⟨pk, ck, a, c, rfl⟩ := holdF_form hy
    exact ⟨_, _, v.num, v.str, _, _, _, _, _, _, _, _, rfl⟩
  | no r k =>
    rw [hp] at h
    exact ⟨0, false, Num.zero, [], _, _, _, _, _, _, _, _, h⟩
theorem told_no {s r : List UInt8} {n : Nat} (hp : parse s = .no r n) {w : World} {e : Ending} {w' : World} (h : ParseTold s w e w') : e = .returned (.tuple #[zeroV, .int .i64 ((s.length - r.length : Nat) : Int), .int .i64 n]) ∧ Below w.heap.size w w' := by
  obtain ⟨k, h⟩ := h
  rw [hp] at h
  exact ⟨h, k⟩
end Go.Proofs.YtlfbnfphocpgeaaGreatDoor.Jdec
namespace Go.Proofs.YtlfbnfphocpgeaaGreatDoor.Jdec
open Go.RowKit Kit Txt
open Utf (nb)
open Tre (Val HoldF HoldV HoldP zeroV)
theorem get_last {s : List UInt8} {k : Nat} (hk : s.length = k + 1) : ∃ c : UInt8, s.getLast? = some c ∧ s[k]? = some c ∧ nb s k = c.toNat := by
  have h : k < s.length := by omega
  refine ⟨s[k], ?_, List.getElem?_eq_getElem h, nb_get h⟩
  rw [List.getLast?_eq_getElem?, show s.length - 1 = k by omega, List.getElem?_eq_getElem h]
theorem fieldE (k0 : Int) (b0 b1 : Bool) (d : ByteArray) (x0 : Int) (t : ByteArray) (a1 : Option Addr) (n1 m1 : Nat) (a2 : Option Addr) (n2 m2 : Nat) (a p k : Int) (wx : World) :
    (Instr.field 31 (.agg #[.int .i64 k0, .bool b0, .bool b1, .string d, .int .i64 x0, .string t, .slice a1 n1 m1, .slice a2 n2 m2, .int .i64 a, .int .i64 p, .int .i64 k]) 3).run Tryz.prog wx = .ok (.int .i64 k) wx := by kernel_rfl
set_option maxRecDepth 100000 in
set_option maxHeartbeats 4000000 in
theorem cuts_law {w : World} (ho : Ok w) (s : List UInt8) {x : Int} (hx0 : 0 ≤ x) (hx1 : x ≤ 65535) : Calls Tryz.prog 3 #[.string (txt s), .int .u16 x] w fun e w' => e = .returned (.bool true) ∧ Below w.heap.size w w' := by
  obtain ⟨k, rfl⟩ : ∃ k : Nat, x = (k : Int) := ⟨x.toNat, by omega⟩
  have hw := Lib.hid (wakes_any ho)
  have hz := txt_size s
  by_cases g1 : 1500 < s.length
  · have d2 : decide ((1500 : Int) < (s.length : Int)) = true := decide_eq_true (by omega)
    have d3 : (1500 : Int) < (s.length : Int) := by omega
    go_enter Tryz.func3, Tryz.ntmps3
    go_wp2_with fail
    refine hw.out.mono ?_
    rintro e w1 ⟨rfl, k1⟩
    go_wp2_with fail
    go_ret
    exact ⟨rfl, k1⟩
  have d2 : decide ((1500 : Int) < (s.length : Int)) = false := decide_eq_false (by omega)
  have d3 : ¬ (1500 : Int) < (s.length : Int) := by omega
  by_cases g2 : s = []
  · subst g2
    go_enter Tryz.func3, Tryz.ntmps3
    go_wp2_with fail
    refine hw.out.mono ?_
    rintro e w1 ⟨rfl, k1⟩
    go_wp2_with fail
    go_ret
    exact ⟨rfl, k1⟩
  have hpos : 0 < s.length := List.length_pos_iff.2 g2
  obtain ⟨n, hn⟩ : ∃ n, s.length = n + 1 := ⟨s.length - 1, by omega⟩
  obtain ⟨c, hlast, hget, hnb⟩ := get_last hn
  have hix := idx (l := s) (i := n) (by omega)
  rw [hnb] at hix
  have d4 : ((s.length : Int) == 0) = false := by simp; omega
  have hw1 : IntKind.i64.wrap ((s.length : Int) - 1) = (n : Int) := by simp only [IntKind.wrap, IntKind.signed, IntKind.bits]; simp; omega
  clear hn
  by_cases g3 : c ≠ 93 ∧ c ≠ 125 ∧ c ≠ 34
  · have q1 : (((c.toNat : Nat) : Int) != 93) = true := by
      have : c.toNat ≠ 93 := fun e => g3.1 (UInt8.toNat_inj.1 e)
      simp; omega
    have q2 : (((c.toNat : Nat) : Int) != 125) = true := by
      have : c.toNat ≠ 125 := fun e => g3.2.1 (UInt8.toNat_inj.1 e)
      simp; omega
    have q3 : (((c.toNat : Nat) : Int) != 34) = true := by
      have : c.toNat ≠ 34 := fun e => g3.2.2 (UInt8.toNat_inj.1 e)
      simp; omega
    generalize c.toNat = cn at *
    clear hlast hget hnb
    go_enter Tryz.func3, Tryz.ntmps3
    go_wp2_with fail
    refine hw.out.mono ?_
    rintro e w1 ⟨rfl, k1⟩
    go_wp2_with fail
    go_ret
    exact ⟨rfl, k1⟩
  have hc : c = 93 ∨ c = 125 ∨ c = 34 := by
    by_cases a1 : c = 93
    · exact .inl a1
    by_cases a2 : c = 125
    · exact .inr (.inl a2)
    by_cases a3 : c = 34
    · exact .inr (.inr a3)
    exact absurd ⟨a1, a2, a3⟩ g3
  have HR := Lib.hid (fun (wx : World) => rparse_any (w := wx) (l := s) (by omega))
  have hHT : ∃ j : Nat, (k : Int).tmod (s.length : Int) = (j : Int) ∧ j < s.length := by
    refine ⟨k % s.length, ?_, Nat.mod_lt _ hpos⟩
    rw [Int.tmod_eq_emod_of_nonneg (by omega)]
    omega
  obtain ⟨j, hji, hjl⟩ := hHT
  have hsl := fun wx => slH (l := s) (z := (j : Int)) (k := j) rfl (by omega) wx
  have wk : IntKind.i64.wrap (k : Int) = (k : Int) := by simp only [IntKind.wrap, IntKind.signed, IntKind.bits]; simp; omega
  have wj : IntKind.i64.wrap (j : Int) = (j : Int) := by simp only [IntKind.wrap, IntKind.signed, IntKind.bits]; simp; omega
  have hlj : (s.take j).length = j := by rw [List.length_take]; omega
  have HP := Lib.hid (fun (wx : World) (h : Ok wx) => jparse_all (w := wx) (s := s.take j) (by omega) h)
  have HSZ := Lib.hid (fun (wx : World) => same_true (zero_hold wx) (zero_hold wx) rfl)
  unfold zeroV at HSZ
  have hcut := fun (v : Val) (r : List UInt8) (h : parse s = .ok v r) => parse_cut h hlast hc hjl
  have hgd := parse_good (s.take j)
  generalize parse s = ps at *
  have hr2 : ∀ r : List UInt8, r <:+ s.take j → ((s.take j).length - r.length : Nat) < s.length := fun r h => by omega
  generalize hpj : parse (s.take j) = pj at *
  have HPJ := Lib.hid hpj
  have HCUT := Lib.hid hcut
  have HGD := Lib.hid hgd
  have HR2 := Lib.hid hr2
  clear hpj hcut hgd hr2 hlast hget hnb g3 hlj
  rcases hc with rfl | rfl | rfl
  all_goals
    go_enter Tryz.func3, Tryz.ntmps3
    go_wp2_with fail
    refine hw.out.mono ?_
    rintro e w1 ⟨rfl, k1⟩
    go_wp2_with fail
    refine (HR.out _).mono ?_
    rintro e w2 ⟨⟨k0, b0, b1, dd, x0, tt, a1, n1, m1, a2, n2, m2, aa, pp, kk, rfl, hcase⟩, k2⟩
    have b2 := k1.trans (k2.mono k1.size)
    have hfe := fieldE k0 b0 b1 dd x0 tt a1 n1 m1 a2 n2 m2 aa pp kk
    rcases hcase with ⟨v, r, hve, rfl, -⟩ | ⟨-, hkne⟩
    · obtain ⟨q, e, hno⟩ := HCUT.out v r hve
      have hgd := HGD.out
      subst hno
      have hlt := HR2.out q hgd.1
      have he0 : e ≠ 0 := hgd.2
      have q1 : (((e : Nat) : Int) != 0) = true := by simpa using he0
      have HB2 := Lib.hid b2
      clear k1 k2 b2 hgd hve
      go_wp2_with fail
      refine (HP.out _ (ho.below HB2.out)).mono ?_
      rintro e' w3 hT
      obtain ⟨rfl, k3⟩ := told_no HPJ.out hT
      have b3 := HB2.out.trans (k3.mono HB2.out.size)
      have b4 := b3.alloc b3.size (.cells #[.int .i64 0, .bool false, .bool false, .string ⟨#[]⟩, .int .i64 0, .string ⟨#[]⟩, .slice none 0 0, .slice none 0 0] 29)
      have hA := World.alloc_heap_new w3 (.cells #[.int .i64 0, .bool false, .bool false, .string ⟨#[]⟩, .int .i64 0, .string ⟨#[]⟩, .slice none 0 0, .slice none 0 0] 29)
      obtain ⟨f0, f1, f2, f3, f4, f5, f6, f7⟩ := Tre.eight hA
      have HB4 := Lib.hid b4
      generalize (s.take j).length - q.length = pz at *
      have d5 : decide ((0 : Int) ≤ (pz : Int)) = true := decide_eq_true (by omega)
      have d6 : decide ((pz : Int) < (s.length : Int)) = true := decide_eq_true (by omega)
      have d7 : (pz : Int) < (s.length : Int) := by omega
      unfold zeroV
      clear hT k3 b3 b4 hA
      go_wp2_with fail
      refine (HSZ.out _).mono ?_
      rintro e6 w6 ⟨rfl, k6⟩
      have b6 := HB4.out.trans (k6.mono HB4.out.size)
      have HB6 := Lib.hid b6
      clear k6 b6 f0 f1 f2 f3 f4 f5 f6 f7
      go_wp2_with fail
      go_ret
      exact ⟨rfl, HB6.out⟩
    · have q1 : (kk != 0) = true := by simpa using hkne
      have HB2 := Lib.hid b2
      clear k1 k2 b2
      go_wp2_with fail
      go_ret
      exact ⟨rfl, HB2.out⟩
theorem cuts_text {w : World} {s : ByteArray} (ho : Ok w) {x : Int} (hx0 : 0 ≤ x) (hx1 : x ≤ 65535) : Calls Tryz.prog 3 #[.string s, .int .u16 x] w fun e w' => e = .returned (.bool true) ∧ Below w.heap.size w w' := by
  have := cuts_law ho s.data.toList hx0 hx1
  rwa [← txt_data] at this
end Go.Proofs.YtlfbnfphocpgeaaGreatDoor.Jdec
namespace Go.Proofs.YtlfbnfphocpgeaaGreatDoor.Jdec
open Go.ChangeShapes Go.WideShapes Go.ChangeAt Go.ChangeMaps Go.RowKit Kit
set_option maxRecDepth 100000 in
theorem cuts_lifted (os : Os) (started : os.Started) (H : Type) (enc : TypeId × Value → H) :
    ReturnsInHanded {} Tryz.checked os 3 .any (fun w args => (Rows.jdecCutsSpec.pre enc Tryz.prog Tryz.f3 [] false w args ∧ laidMetH Tryz.prog [("unicode/utf8.acceptRanges", Rows.laid_unicode_utf8_acceptRanges), ("tabularium/utf.kinds", Rows.laid_tabularium_utf_kinds), ("tabularium/num.next", Rows.laid_tabularium_num_next), ("unicode/utf8.first", Rows.laid_unicode_utf8_first)] w) ∧ sizedMet enc Tryz.prog Tryz.f3 (OpenSpec.ofChange Rows.jdecCutsSpec) false w args)
      (Rows.jdecCutsSpec.post enc Tryz.prog Tryz.f3 false true false false) := by
  refine returnsInHanded_of_change_and (C := Tryz.checked) (X := fun w _ => laidMetH Tryz.prog [("unicode/utf8.acceptRanges", Rows.laid_unicode_utf8_acceptRanges), ("tabularium/utf.kinds", Rows.laid_tabularium_utf_kinds), ("tabularium/num.next", Rows.laid_tabularium_num_next), ("unicode/utf8.first", Rows.laid_unicode_utf8_first)] w) (fun _ _ _ hh h => h.of_heap hh) own started (by kernel_rfl) Tryz.func3
    (ChangeSpec.witness_shaped (enc := enc) (C := Tryz.checked) (os := os) (X := fun w _ => laidMetH Tryz.prog [("unicode/utf8.acceptRanges", Rows.laid_unicode_utf8_acceptRanges), ("tabularium/utf.kinds", Rows.laid_tabularium_utf_kinds), ("tabularium/num.next", Rows.laid_tabularium_num_next), ("unicode/utf8.first", Rows.laid_unicode_utf8_first)] w) false (World.laidAll Tryz.prog os [("unicode/utf8.acceptRanges", Rows.laid_unicode_utf8_acceptRanges), ("tabularium/utf.kinds", Rows.laid_tabularium_utf_kinds), ("tabularium/num.next", Rows.laid_tabularium_num_next), ("unicode/utf8.first", Rows.laid_unicode_utf8_first)]) #[.string ⟨#[]⟩, .int .u16 0] 8 (World.laidAll_os _ _ _) (World.shaped_of_ZipB (by kernel_rfl) (by kernel_rfl)) (by kernel_rfl) (by kernel_rfl) (by kernel_rfl)
      (by rw [MakeChecks.laidMetH_plain _ _ _ (by kernel_rfl)]; exact laidMet_laidAll _ (by kernel_rfl) (by kernel_rfl))) ?_
  intro W base args ds gs before hval0 hW _ _ hL _
  have hval : ∀ (j : Nat) t v, Tryz.f3.params[j]? = some t → args[j]? = some v → Value.okWide Tryz.prog W .any base t v := hval0
  have hW' := hW
  obtain ⟨p, q, hA0, hV, rfl, hfz, hnd⟩ := hW
  have hA : DataW.TrodAll enc Tryz.prog W 0 (fun _ => true) true Tryz.f3.params.toList args.toList ds p := hA0
  rw [Tryz.params3] at hA hval
  obtain ⟨v0, vs0, d0, ds0, p0, q0, hargs, rfl, rfl, h0, r0⟩ := trodAll_cons hA
  obtain ⟨v1, vs1, d1, ds1, p1, q1, rfl, rfl, rfl, h1, r1⟩ := trodAll_cons r0
  obtain ⟨rfl, rfl, rfl⟩ := trodAll_nil r1
  obtain rfl : args = #[v0, v1] := by cases args; simp_all
  obtain ⟨rfl, rfl⟩ := trodVars_none hV
  obtain ⟨a0, rfl, rfl, rfl, w0⟩ := open_string Tryz.underlying9 (hval 0 9 v0 rfl rfl) h0
  obtain ⟨a1, rfl, rfl, rfl, w1⟩ := open_int Tryz.underlying22 (hval 1 22 v1 rfl rfl) h1
  have hT := laid_ok hL (by kernel_rfl) (by simp) (by simp)
  refine (cuts_text (s := a0) hT (wf16 w1).1 (by have := (wf16 w1).2; omega)).mono fun e W' ⟨he, hg⟩ => ?_
  subst he
  exact ⟨_, rfl, law_done (tb := 4) Kit.laid rfl rfl (by kernel_rfl) Tryz.underlying4 (by decide +kernel) hW' hg⟩
theorem cuts_holds_row : Rows.JdecCutsSaid :=
  OpenClaim.holds_of_wide 3 Tryz.f3 rfl rfl rfl rfl rfl rfl rfl ⟨rfl, rfl, rfl, rfl, rfl⟩ rfl rfl rfl rfl rfl (by kernel_rfl) Tryz.func3 (by kernel_rfl)
    (of_decide_eq_true (by kernel_rfl)) (by unfold Func.isWrapper; first | (rw [if_pos (by decide +kernel)]; kernel_rfl) | (rw [if_neg (by decide +kernel)]; exact ⟨rfl, rfl⟩))
    (fun os started H enc _ => cuts_lifted os started H enc)
theorem cuts_holds : Rows.JdecCutsCardSaid :=
  Claim7.holds_tied_plain_at .later _ _ _ _ _
    cuts_holds_row (fun _ h => by cases h) (by kernel_rfl) (fun _ h => by cases h) jdecCuts_row_tie rfl ⟨rfl, rfl⟩ (by kernel_rfl) rfl
    (fun f fn hf hfn => by
      obtain rfl : f = 3 := Option.some.inj ((show Tryz.prog.funcNamed "tabularium/tabulariumlaw09.JdecCuts" = some 3 by kernel_rfl).symm.trans hf) |>.symm
      obtain rfl : fn = Tryz.f3 := (Option.some.inj (Tryz.func3.symm.trans hfn)).symm
      exact ⟨by kernel_rfl, fun j t ht => by
        rw [Tryz.params3] at ht
        have hm : t ∈ [9, 22] := by simpa using Array.mem_of_getElem? ht
        have hall : ([9, 22].all fun u => !Tryz.prog.wantsStandIn u) = true := by kernel_rfl
        exact (show Tryz.prog.wantsStandIn t = false by simpa using List.all_eq_true.1 hall t hm)⟩)
    (by kernel_rfl)
end Go.Proofs.YtlfbnfphocpgeaaGreatDoor.Jdec
