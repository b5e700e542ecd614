/- A part of what is_holds leans on (its texts, put together). Nothing is claimed here. -/
import Derived.Test.YtlfbnfphocpgeaaGreatDoorIs27
import Derived.Test.YtlfbnfphocpgeaaGreatDoorIs42
import Derived.Test.YtlfbnfphocpgeaaGreatDoorIs43
namespace Go.Proofs.YtlfbnfphocpgeaaGreatDoor.Jdec
open Go.RowKit Kit Txt
open Utf (nb)
open Tre (Val HoldF HoldP)
theorem TellE.map {α : Type} {C D : Value → α → Prop} {n : Nat} {g : Got α} {e : Ending} (h : TellE C n g e) (hCD : ∀ u x, C u x → D u x) : TellE D n g e := by
 obtain ⟨k0, b0, b1, d, x0, t, a1, n1, m1, a2, n2, m2, a, p, k, he, hc⟩ := h
 exact ⟨k0, b0, b1, d, x0, t, a1, n1, m1, a2, n2, m2, a, p, k, he, hc.imp (fun ⟨x, r, h1, h2, h3, h4⟩ => ⟨x, r, h1, h2, h3, hCD _ _ h4⟩) id⟩
def ValR (l : List UInt8) (K : Nat) : Prop := ∀ (w : World) (q : Nat), q ≤ l.length → Calls Tryz.prog 22 #[.string (txt l), .int .i64 q, .int .i64 (65 - (K : Int))] w fun e w' => TellE (HoldF w.heap.size w') l.length (value K (l.drop q)) e ∧ Below w.heap.size w w'
theorem head_of {l : List UInt8} {q : Nat} (c : UInt8) (hc : c.toNat ≠ 0) (h : nb l q = c.toNat) : (l.drop q).head? = some c := (head_at l q c hc).2 h
theorem read_digit {val : List UInt8 → Got Val} {l : List UInt8} {c : UInt8} (h : l.head? = some c) (hd : digit c = true) : read val l = number l := by
 unfold read
 rw [h]
 dsimp only
 rw [if_pos hd]
theorem begins_digit {c : UInt8} (hd : digit c = true) : begins c = true := by unfold begins; rw [hd]; simp
set_option maxRecDepth 100000 in
set_option maxHeartbeats 2000000 in
theorem rvalue_end {w : World} {l : List UInt8} {q K : Nat} {d : Int} (_hl : l.length < 100000) (hq : l.length ≤ q) :
   Calls Tryz.prog 22 #[.string (txt l), .int .i64 q, .int .i64 d] w fun e w' => TellE (HoldF w.heap.size w') l.length (value K (l.drop q)) e ∧ Below w.heap.size w w' := by
 have hs := txt_size l
 have hA := World.alloc_heap_new w (.cells #[.int .i64 0, .bool false, .bool false, .string ⟨#[]⟩, .int .i64 0, .string ⟨#[]⟩, .slice none 0 0, .slice none 0 0, .int .i64 0, .int .i64 0, .int .i64 0] 31)
 have bA : Below w.heap.size w (w.alloc (.cells #[.int .i64 0, .bool false, .bool false, .string ⟨#[]⟩, .int .i64 0, .string ⟨#[]⟩, .slice none 0 0, .slice none 0 0, .int .i64 0, .int .i64 0, .int .i64 0] 31)) := (Below.refl _ w).alloc (Nat.le_refl _) _
 have hlw : w.heap.size < (w.alloc (.cells #[.int .i64 0, .bool false, .bool false, .string ⟨#[]⟩, .int .i64 0, .string ⟨#[]⟩, .slice none 0 0, .slice none 0 0, .int .i64 0, .int .i64 0, .int .i64 0] 31)).heap.size := by simp
 have hb := fun (wx : World) (x : Int) => rbad_any (w := wx) (p := q) (e := x)
 simp only [badV] at hb
 have hno : value K (l.drop q) = .no (l.drop q) 2 := by rw [List.drop_eq_nil_of_le (by omega)]; exact value_end K rfl
 have HF := Lib.hid fun (C : Value → Val → Prop) => TellE.bad2 (C := C) (n := l.length) hno (show (2 : Int) ≠ 0 by decide) 0 false false ⟨#[]⟩ 0 ⟨#[]⟩ none 0 0 none 0 0 0 q
 have g1 : (l.length : Int) ≤ (q : Int) := by omega
 have g2 : decide (l.length ≤ q) = true := decide_eq_true (by omega)
 have HBD := Lib.hid (hb (w.alloc (.cells #[.int .i64 0, .bool false, .bool false, .string ⟨#[]⟩, .int .i64 0, .string ⟨#[]⟩, .slice none 0 0, .slice none 0 0, .int .i64 0, .int .i64 0, .int .i64 0] 31)) 2)
 have HA := Lib.hid hA
 have HBA := Lib.hid bA
 clear hno hb hA bA
 go_enter Tryz.func22, Tryz.ntmps22
 go_wp2_with fail
 refine HBD.out.mono ?_
 rintro e w2 ⟨rfl, k2⟩
 have hgot := (k2.block _ (lt_of_heap HA.out)).trans HA.out
 have hbel := HBA.out.trans (k2.mono HBA.out.size)
 clear k2
 have h9 := set11 hgot (.int .i64 0) (.bool false) (.bool false) (.string ⟨#[]⟩) (.int .i64 0) (.string ⟨#[]⟩) (.slice none 0 0) (.slice none 0 0) (.int .i64 0) (.int .i64 q) (.int .i64 2)
 have b9 := below11 hbel (Nat.le_refl _) (.int .i64 0) (.bool false) (.bool false) (.string ⟨#[]⟩) (.int .i64 0) (.string ⟨#[]⟩) (.slice none 0 0) (.slice none 0 0) (.int .i64 0) (.int .i64 q) (.int .i64 2)
 obtain ⟨z0, z1, z2, z3, z4, z5, z6, z7, z8, z9, z10⟩ := eleven h9
 obtain ⟨y0, y1, y2, y3, y4, y5, y6, y7, y8, y9, y10⟩ := eleven hgot
 have qf := free_of hgot
 have HB9 := Lib.hid b9
 clear h9 b9
 go_wp2_with fail
 refine bodyPost_ret (v := .agg #[.int .i64 0, .bool false, .bool false, .string ⟨#[]⟩, .int .i64 0, .string ⟨#[]⟩, .slice none 0 0, .slice none 0 0, .int .i64 0, .int .i64 q, .int .i64 2]) (by simp [results, Tryz.results22, go_sem, z0, z1, z2, z3, z4, z5, z6, z7, z8, z9, z10]) rfl ⟨HF.out _, HB9.out⟩
set_option maxRecDepth 100000 in
set_option maxHeartbeats 2000000 in
theorem rvalue_formlo {w : World} {l : List UInt8} {q K : Nat} {d : Int} (_hl : l.length < 100000) (hq : q < l.length) (hx : nb l q < 48) (h45 : nb l q ≠ 45) (h1 : nb l q ≠ 110) (h2 : nb l q ≠ 116) (h3 : nb l q ≠ 102) (h4 : nb l q ≠ 34) (h5 : nb l q ≠ 91) (h6 : nb l q ≠ 123) :
   Calls Tryz.prog 22 #[.string (txt l), .int .i64 q, .int .i64 d] w fun e w' => TellE (HoldF w.heap.size w') l.length (value K (l.drop q)) e ∧ Below w.heap.size w w' := by
 have hs := txt_size l
 have hA := World.alloc_heap_new w (.cells #[.int .i64 0, .bool false, .bool false, .string ⟨#[]⟩, .int .i64 0, .string ⟨#[]⟩, .slice none 0 0, .slice none 0 0, .int .i64 0, .int .i64 0, .int .i64 0] 31)
 have bA : Below w.heap.size w (w.alloc (.cells #[.int .i64 0, .bool false, .bool false, .string ⟨#[]⟩, .int .i64 0, .string ⟨#[]⟩, .slice none 0 0, .slice none 0 0, .int .i64 0, .int .i64 0, .int .i64 0] 31)) := (Below.refl _ w).alloc (Nat.le_refl _) _
 have hlw : w.heap.size < (w.alloc (.cells #[.int .i64 0, .bool false, .bool false, .string ⟨#[]⟩, .int .i64 0, .string ⟨#[]⟩, .slice none 0 0, .slice none 0 0, .int .i64 0, .int .i64 0, .int .i64 0] 31)).heap.size := by simp
 have hb := fun (wx : World) (x : Int) => rbad_any (w := wx) (p := q) (e := x)
 simp only [badV] at hb
 have hno : value K (l.drop q) = .no (l.drop q) 3 := by
   rw [nb_get hq] at hx h45 h1 h2 h3 h4 h5 h6
   have hh : (l.drop q).head? = some l[q] := by rw [List.drop_eq_getElem_cons hq]; rfl
   have hne : ∀ c : UInt8, l[q].toNat ≠ c.toNat → l[q] ≠ c := fun c h e => h (by rw [e])
   refine value_form hh ?_
   unfold begins digit
   have e1 := hne 45 h45
   have e2 := hne 110 h1
   have e3 := hne 116 h2
   have e4 := hne 102 h3
   have e5 := hne 34 h4
   have e6 := hne 91 h5
   have e7 := hne 123 h6
   simp [e1, e2, e3, e4, e5, e6, e7]
   omega
 have HF := Lib.hid fun (C : Value → Val → Prop) => TellE.bad2 (C := C) (n := l.length) hno (show (3 : Int) ≠ 0 by decide) 0 false false ⟨#[]⟩ 0 ⟨#[]⟩ none 0 0 none 0 0 0 q
 have g1 : ¬ (l.length : Int) ≤ (q : Int) := by omega
 have g2 : decide (l.length ≤ q) = false := decide_eq_false (by omega)
 have hix := idx hq
 have d1 : decide (48 ≤ nb l q) = false := decide_eq_false (by omega)
 have d1' : decide ((48 : Int) ≤ ((nb l q : Nat) : Int)) = false := decide_eq_false (by omega)
 have e45 : (((nb l q : Nat) : Int) == 45) = false := by simp; omega
 have n110 : (((nb l q : Nat) : Int) != 110) = true := by simp; omega
 have n116 : (((nb l q : Nat) : Int) != 116) = true := by simp; omega
 have n102 : (((nb l q : Nat) : Int) != 102) = true := by simp; omega
 have n34 : (((nb l q : Nat) : Int) != 34) = true := by simp; omega
 have n91 : (((nb l q : Nat) : Int) != 91) = true := by simp; omega
 have n123 : (((nb l q : Nat) : Int) != 123) = true := by simp; omega
 generalize nb l q = x at *
 have HBD := Lib.hid (hb (w.alloc (.cells #[.int .i64 0, .bool false, .bool false, .string ⟨#[]⟩, .int .i64 0, .string ⟨#[]⟩, .slice none 0 0, .slice none 0 0, .int .i64 0, .int .i64 0, .int .i64 0] 31)) 3)
 have HA := Lib.hid hA
 have HBA := Lib.hid bA
 clear hno hb hA bA
 go_enter Tryz.func22, Tryz.ntmps22
 go_wp2_with fail
 refine HBD.out.mono ?_
 rintro e w2 ⟨rfl, k2⟩
 have hgot := (k2.block _ (lt_of_heap HA.out)).trans HA.out
 have hbel := HBA.out.trans (k2.mono HBA.out.size)
 clear k2
 have h9 := set11 hgot (.int .i64 0) (.bool false) (.bool false) (.string ⟨#[]⟩) (.int .i64 0) (.string ⟨#[]⟩) (.slice none 0 0) (.slice none 0 0) (.int .i64 0) (.int .i64 q) (.int .i64 3)
 have b9 := below11 hbel (Nat.le_refl _) (.int .i64 0) (.bool false) (.bool false) (.string ⟨#[]⟩) (.int .i64 0) (.string ⟨#[]⟩) (.slice none 0 0) (.slice none 0 0) (.int .i64 0) (.int .i64 q) (.int .i64 3)
 obtain ⟨z0, z1, z2, z3, z4, z5, z6, z7, z8, z9, z10⟩ := eleven h9
 obtain ⟨y0, y1, y2, y3, y4, y5, y6, y7, y8, y9, y10⟩ := eleven hgot
 have qf := free_of hgot
 have HB9 := Lib.hid b9
 clear h9 b9
 go_wp2_with fail
 refine bodyPost_ret (v := .agg #[.int .i64 0, .bool false, .bool false, .string ⟨#[]⟩, .int .i64 0, .string ⟨#[]⟩, .slice none 0 0, .slice none 0 0, .int .i64 0, .int .i64 q, .int .i64 3]) (by simp [results, Tryz.results22, go_sem, z0, z1, z2, z3, z4, z5, z6, z7, z8, z9, z10]) rfl ⟨HF.out _, HB9.out⟩
set_option maxRecDepth 100000 in
set_option maxHeartbeats 2000000 in
theorem rvalue_formhi {w : World} {l : List UInt8} {q K : Nat} {d : Int} (_hl : l.length < 100000) (hq : q < l.length) (hx : 57 < nb l q) (h45 : nb l q ≠ 45) (h1 : nb l q ≠ 110) (h2 : nb l q ≠ 116) (h3 : nb l q ≠ 102) (h4 : nb l q ≠ 34) (h5 : nb l q ≠ 91) (h6 : nb l q ≠ 123) :
   Calls Tryz.prog 22 #[.string (txt l), .int .i64 q, .int .i64 d] w fun e w' => TellE (HoldF w.heap.size w') l.length (value K (l.drop q)) e ∧ Below w.heap.size w w' := by
 have hs := txt_size l
 have hA := World.alloc_heap_new w (.cells #[.int .i64 0, .bool false, .bool false, .string ⟨#[]⟩, .int .i64 0, .string ⟨#[]⟩, .slice none 0 0, .slice none 0 0, .int .i64 0, .int .i64 0, .int .i64 0] 31)
 have bA : Below w.heap.size w (w.alloc (.cells #[.int .i64 0, .bool false, .bool false, .string ⟨#[]⟩, .int .i64 0, .string ⟨#[]⟩, .slice none 0 0, .slice none 0 0, .int .i64 0, .int .i64 0, .int .i64 0] 31)) := (Below.refl _ w).alloc (Nat.le_refl _) _
 have hlw : w.heap.size < (w.alloc (.cells #[.int .i64 0, .bool false, .bool false, .string ⟨#[]⟩, .int .i64 0, .string ⟨#[]⟩, .slice none 0 0, .slice none 0 0, .int .i64 0, .int .i64 0, .int .i64 0] 31)).heap.size := by simp
 have hb := fun (wx : World) (x : Int) => rbad_any (w := wx) (p := q) (e := x)
 simp only [badV] at hb
 have hno : value K (l.drop q) = .no (l.drop q) 3 := by
   rw [nb_get hq] at hx h45 h1 h2 h3 h4 h5 h6
   have hh : (l.drop q).head? = some l[q] := by rw [List.drop_eq_getElem_cons hq]; rfl
   have hne : ∀ c : UInt8, l[q].toNat ≠ c.toNat → l[q] ≠ c := fun c h e => h (by rw [e])
   refine value_form hh ?_
   unfold begins digit
   have e1 := hne 45 h45
   have e2 := hne 110 h1
   have e3 := hne 116 h2
   have e4 := hne 102 h3
   have e5 := hne 34 h4
   have e6 := hne 91 h5
   have e7 := hne 123 h6
   simp [e1, e2, e3, e4, e5, e6, e7]
   omega
 have HF := Lib.hid fun (C : Value → Val → Prop) => TellE.bad2 (C := C) (n := l.length) hno (show (3 : Int) ≠ 0 by decide) 0 false false ⟨#[]⟩ 0 ⟨#[]⟩ none 0 0 none 0 0 0 q
 have g1 : ¬ (l.length : Int) ≤ (q : Int) := by omega
 have g2 : decide (l.length ≤ q) = false := decide_eq_false (by omega)
 have hix := idx hq
 have d1 : decide (48 ≤ nb l q) = true := decide_eq_true (by omega)
 have d1' : (48 : Int) ≤ ((nb l q : Nat) : Int) := by omega
 have d2 : decide (nb l q ≤ 57) = false := decide_eq_false (by omega)
 have d2' : decide (((nb l q : Nat) : Int) ≤ (57 : Int)) = false := decide_eq_false (by omega)
 have e45 : (((nb l q : Nat) : Int) == 45) = false := by simp; omega
 have n110 : (((nb l q : Nat) : Int) != 110) = true := by simp; omega
 have n116 : (((nb l q : Nat) : Int) != 116) = true := by simp; omega
 have n102 : (((nb l q : Nat) : Int) != 102) = true := by simp; omega
 have n34 : (((nb l q : Nat) : Int) != 34) = true := by simp; omega
 have n91 : (((nb l q : Nat) : Int) != 91) = true := by simp; omega
 have n123 : (((nb l q : Nat) : Int) != 123) = true := by simp; omega
 generalize nb l q = x at *
 have HBD := Lib.hid (hb (w.alloc (.cells #[.int .i64 0, .bool false, .bool false, .string ⟨#[]⟩, .int .i64 0, .string ⟨#[]⟩, .slice none 0 0, .slice none 0 0, .int .i64 0, .int .i64 0, .int .i64 0] 31)) 3)
 have HA := Lib.hid hA
 have HBA := Lib.hid bA
 clear hno hb hA bA
 go_enter Tryz.func22, Tryz.ntmps22
 go_wp2_with fail
 refine HBD.out.mono ?_
 rintro e w2 ⟨rfl, k2⟩
 have hgot := (k2.block _ (lt_of_heap HA.out)).trans HA.out
 have hbel := HBA.out.trans (k2.mono HBA.out.size)
 clear k2
 have h9 := set11 hgot (.int .i64 0) (.bool false) (.bool false) (.string ⟨#[]⟩) (.int .i64 0) (.string ⟨#[]⟩) (.slice none 0 0) (.slice none 0 0) (.int .i64 0) (.int .i64 q) (.int .i64 3)
 have b9 := below11 hbel (Nat.le_refl _) (.int .i64 0) (.bool false) (.bool false) (.string ⟨#[]⟩) (.int .i64 0) (.string ⟨#[]⟩) (.slice none 0 0) (.slice none 0 0) (.int .i64 0) (.int .i64 q) (.int .i64 3)
 obtain ⟨z0, z1, z2, z3, z4, z5, z6, z7, z8, z9, z10⟩ := eleven h9
 obtain ⟨y0, y1, y2, y3, y4, y5, y6, y7, y8, y9, y10⟩ := eleven hgot
 have qf := free_of hgot
 have HB9 := Lib.hid b9
 clear h9 b9
 go_wp2_with fail
 refine bodyPost_ret (v := .agg #[.int .i64 0, .bool false, .bool false, .string ⟨#[]⟩, .int .i64 0, .string ⟨#[]⟩, .slice none 0 0, .slice none 0 0, .int .i64 0, .int .i64 q, .int .i64 3]) (by simp [results, Tryz.results22, go_sem, z0, z1, z2, z3, z4, z5, z6, z7, z8, z9, z10]) rfl ⟨HF.out _, HB9.out⟩
set_option maxRecDepth 100000 in
set_option maxHeartbeats 2000000 in
theorem rvalue_deepn {w : World} {l : List UInt8} {q : Nat} {d : Int} (_hl : l.length < 100000) (hq : q < l.length) (hx : nb l q = 110) (hd : 64 < d) :
   Calls Tryz.prog 22 #[.string (txt l), .int .i64 q, .int .i64 d] w fun e w' => TellE (HoldF w.heap.size w') l.length (value 0 (l.drop q)) e ∧ Below w.heap.size w w' := by
 have hs := txt_size l
 have hA := World.alloc_heap_new w (.cells #[.int .i64 0, .bool false, .bool false, .string ⟨#[]⟩, .int .i64 0, .string ⟨#[]⟩, .slice none 0 0, .slice none 0 0, .int .i64 0, .int .i64 0, .int .i64 0] 31)
 have bA : Below w.heap.size w (w.alloc (.cells #[.int .i64 0, .bool false, .bool false, .string ⟨#[]⟩, .int .i64 0, .string ⟨#[]⟩, .slice none 0 0, .slice none 0 0, .int .i64 0, .int .i64 0, .int .i64 0] 31)) := (Below.refl _ w).alloc (Nat.le_refl _) _
 have hlw : w.heap.size < (w.alloc (.cells #[.int .i64 0, .bool false, .bool false, .string ⟨#[]⟩, .int .i64 0, .string ⟨#[]⟩, .slice none 0 0, .slice none 0 0, .int .i64 0, .int .i64 0, .int .i64 0] 31)).heap.size := by simp
 have hb := fun (wx : World) (x : Int) => rbad_any (w := wx) (p := q) (e := x)
 simp only [badV] at hb
 have hno : value 0 (l.drop q) = .no (l.drop q) 5 := value_deep (head_of 110 (by decide) hx) (by decide)
 have HF := Lib.hid fun (C : Value → Val → Prop) => TellE.bad2 (C := C) (n := l.length) hno (show (5 : Int) ≠ 0 by decide) 0 false false ⟨#[]⟩ 0 ⟨#[]⟩ none 0 0 none 0 0 0 q
 have g1 : ¬ (l.length : Int) ≤ (q : Int) := by omega
 have g2 : decide (l.length ≤ q) = false := decide_eq_false (by omega)
 have hix := idx hq
 rw [hx] at hix
 have hdd : decide ((64 : Int) < d) = true := decide_eq_true hd
 have HBD := Lib.hid (hb (w.alloc (.cells #[.int .i64 0, .bool false, .bool false, .string ⟨#[]⟩, .int .i64 0, .string ⟨#[]⟩, .slice none 0 0, .slice none 0 0, .int .i64 0, .int .i64 0, .int .i64 0] 31)) 5)
 have HA := Lib.hid hA
 have HBA := Lib.hid bA
 clear hno hb hA bA
 go_enter Tryz.func22, Tryz.ntmps22
 go_wp2_with fail
 refine HBD.out.mono ?_
 rintro e w2 ⟨rfl, k2⟩
 have hgot := (k2.block _ (lt_of_heap HA.out)).trans HA.out
 have hbel := HBA.out.trans (k2.mono HBA.out.size)
 clear k2
 have h9 := set11 hgot (.int .i64 0) (.bool false) (.bool false) (.string ⟨#[]⟩) (.int .i64 0) (.string ⟨#[]⟩) (.slice none 0 0) (.slice none 0 0) (.int .i64 0) (.int .i64 q) (.int .i64 5)
 have b9 := below11 hbel (Nat.le_refl _) (.int .i64 0) (.bool false) (.bool false) (.string ⟨#[]⟩) (.int .i64 0) (.string ⟨#[]⟩) (.slice none 0 0) (.slice none 0 0) (.int .i64 0) (.int .i64 q) (.int .i64 5)
 obtain ⟨z0, z1, z2, z3, z4, z5, z6, z7, z8, z9, z10⟩ := eleven h9
 obtain ⟨y0, y1, y2, y3, y4, y5, y6, y7, y8, y9, y10⟩ := eleven hgot
 have qf := free_of hgot
 have HB9 := Lib.hid b9
 clear h9 b9
 go_wp2_with fail
 refine bodyPost_ret (v := .agg #[.int .i64 0, .bool false, .bool false, .string ⟨#[]⟩, .int .i64 0, .string ⟨#[]⟩, .slice none 0 0, .slice none 0 0, .int .i64 0, .int .i64 q, .int .i64 5]) (by simp [results, Tryz.results22, go_sem, z0, z1, z2, z3, z4, z5, z6, z7, z8, z9, z10]) rfl ⟨HF.out _, HB9.out⟩
set_option maxRecDepth 100000 in
set_option maxHeartbeats 2000000 in
theorem rvalue_deept {w : World} {l : List UInt8} {q : Nat} {d : Int} (_hl : l.length < 100000) (hq : q < l.length) (hx : nb l q = 116) (hd : 64 < d) :
   Calls Tryz.prog 22 #[.string (txt l), .int .i64 q, .int .i64 d] w fun e w' => TellE (HoldF w.heap.size w') l.length (value 0 (l.drop q)) e ∧ Below w.heap.size w w' := by
 have hs := txt_size l
 have hA := World.alloc_heap_new w (.cells #[.int .i64 0, .bool false, .bool false, .string ⟨#[]⟩, .int .i64 0, .string ⟨#[]⟩, .slice none 0 0, .slice none 0 0, .int .i64 0, .int .i64 0, .int .i64 0] 31)
 have bA : Below w.heap.size w (w.alloc (.cells #[.int .i64 0, .bool false, .bool false, .string ⟨#[]⟩, .int .i64 0, .string ⟨#[]⟩, .slice none 0 0, .slice none 0 0, .int .i64 0, .int .i64 0, .int .i64 0] 31)) := (Below.refl _ w).alloc (Nat.le_refl _) _
 have hlw : w.heap.size < (w.alloc (.cells #[.int .i64 0, .bool false, .bool false, .string ⟨#[]⟩, .int .i64 0, .string ⟨#[]⟩, .slice none 0 0, .slice none 0 0, .int .i64 0, .int .i64 0, .int .i64 0] 31)).heap.size := by simp
 have hb := fun (wx : World) (x : Int) => rbad_any (w := wx) (p := q) (e := x)
 simp only [badV] at hb
 have hno : value 0 (l.drop q) = .no (l.drop q) 5 := value_deep (head_of 116 (by decide) hx) (by decide)
 have HF := Lib.hid fun (C : Value → Val → Prop) => TellE.bad2 (C := C) (n := l.length) hno (show (5 : Int) ≠ 0 by decide) 0 false false ⟨#[]⟩ 0 ⟨#[]⟩ none 0 0 none 0 0 0 q
 have g1 : ¬ (l.length : Int) ≤ (q : Int) := by omega
 have g2 : decide (l.length ≤ q) = false := decide_eq_false (by omega)
 have hix := idx hq
 rw [hx] at hix
 have hdd : decide ((64 : Int) < d) = true := decide_eq_true hd
 have HBD := Lib.hid (hb (w.alloc (.cells #[.int .i64 0, .bool false, .bool false, .string ⟨#[]⟩, .int .i64 0, .string ⟨#[]⟩, .slice none 0 0, .slice none 0 0, .int .i64 0, .int .i64 0, .int .i64 0] 31)) 5)
 have HA := Lib.hid hA
 have HBA := Lib.hid bA
 clear hno hb hA bA
 go_enter Tryz.func22, Tryz.ntmps22
 go_wp2_with fail
 refine HBD.out.mono ?_
 rintro e w2 ⟨rfl, k2⟩
 have hgot := (k2.block _ (lt_of_heap HA.out)).trans HA.out
 have hbel := HBA.out.trans (k2.mono HBA.out.size)
 clear k2
 have h9 := set11 hgot (.int .i64 0) (.bool false) (.bool false) (.string ⟨#[]⟩) (.int .i64 0) (.string ⟨#[]⟩) (.slice none 0 0) (.slice none 0 0) (.int .i64 0) (.int .i64 q) (.int .i64 5)
 have b9 := below11 hbel (Nat.le_refl _) (.int .i64 0) (.bool false) (.bool false) (.string ⟨#[]⟩) (.int .i64 0) (.string ⟨#[]⟩) (.slice none 0 0) (.slice none 0 0) (.int .i64 0) (.int .i64 q) (.int .i64 5)
 obtain ⟨z0, z1, z2, z3, z4, z5, z6, z7, z8, z9, z10⟩ := eleven h9
 obtain ⟨y0, y1, y2, y3, y4, y5, y6, y7, y8, y9, y10⟩ := eleven hgot
 have qf := free_of hgot
 have HB9 := Lib.hid b9
 clear h9 b9
 go_wp2_with fail
 refine bodyPost_ret (v := .agg #[.int .i64 0, .bool false, .bool false, .string ⟨#[]⟩, .int .i64 0, .string ⟨#[]⟩, .slice none 0 0, .slice none 0 0, .int .i64 0, .int .i64 q, .int .i64 5]) (by simp [results, Tryz.results22, go_sem, z0, z1, z2, z3, z4, z5, z6, z7, z8, z9, z10]) rfl ⟨HF.out _, HB9.out⟩
set_option maxRecDepth 100000 in
set_option maxHeartbeats 2000000 in
theorem rvalue_deepf {w : World} {l : List UInt8} {q : Nat} {d : Int} (_hl : l.length < 100000) (hq : q < l.length) (hx : nb l q = 102) (hd : 64 < d) :
   Calls Tryz.prog 22 #[.string (txt l), .int .i64 q, .int .i64 d] w fun e w' => TellE (HoldF w.heap.size w') l.length (value 0 (l.drop q)) e ∧ Below w.heap.size w w' := by
 have hs := txt_size l
 have hA := World.alloc_heap_new w (.cells #[.int .i64 0, .bool false, .bool false, .string ⟨#[]⟩, .int .i64 0, .string ⟨#[]⟩, .slice none 0 0, .slice none 0 0, .int .i64 0, .int .i64 0, .int .i64 0] 31)
 have bA : Below w.heap.size w (w.alloc (.cells #[.int .i64 0, .bool false, .bool false, .string ⟨#[]⟩, .int .i64 0, .string ⟨#[]⟩, .slice none 0 0, .slice none 0 0, .int .i64 0, .int .i64 0, .int .i64 0] 31)) := (Below.refl _ w).alloc (Nat.le_refl _) _
 have hlw : w.heap.size < (w.alloc (.cells #[.int .i64 0, .bool false, .bool false, .string ⟨#[]⟩, .int .i64 0, .string ⟨#[]⟩, .slice none 0 0, .slice none 0 0, .int .i64 0, .int .i64 0, .int .i64 0] 31)).heap.size := by simp
 have hb := fun (wx : World) (x : Int) => rbad_any (w := wx) (p := q) (e := x)
 simp only [badV] at hb
 have hno : value 0 (l.drop q) = .no (l.drop q) 5 := value_deep (head_of 102 (by decide) hx) (by decide)
 have HF := Lib.hid fun (C : Value → Val → Prop) => TellE.bad2 (C := C) (n := l.length) hno (show (5 : Int) ≠ 0 by decide) 0 false false ⟨#[]⟩ 0 ⟨#[]⟩ none 0 0 none 0 0 0 q
 have g1 : ¬ (l.length : Int) ≤ (q : Int) := by omega
 have g2 : decide (l.length ≤ q) = false := decide_eq_false (by omega)
 have hix := idx hq
 rw [hx] at hix
 have hdd : decide ((64 : Int) < d) = true := decide_eq_true hd
 have HBD := Lib.hid (hb (w.alloc (.cells #[.int .i64 0, .bool false, .bool false, .string ⟨#[]⟩, .int .i64 0, .string ⟨#[]⟩, .slice none 0 0, .slice none 0 0, .int .i64 0, .int .i64 0, .int .i64 0] 31)) 5)
 have HA := Lib.hid hA
 have HBA := Lib.hid bA
 clear hno hb hA bA
 go_enter Tryz.func22, Tryz.ntmps22
 go_wp2_with fail
 refine HBD.out.mono ?_
 rintro e w2 ⟨rfl, k2⟩
 have hgot := (k2.block _ (lt_of_heap HA.out)).trans HA.out
 have hbel := HBA.out.trans (k2.mono HBA.out.size)
 clear k2
 have h9 := set11 hgot (.int .i64 0) (.bool false) (.bool false) (.string ⟨#[]⟩) (.int .i64 0) (.string ⟨#[]⟩) (.slice none 0 0) (.slice none 0 0) (.int .i64 0) (.int .i64 q) (.int .i64 5)
 have b9 := below11 hbel (Nat.le_refl _) (.int .i64 0) (.bool false) (.bool false) (.string ⟨#[]⟩) (.int .i64 0) (.string ⟨#[]⟩) (.slice none 0 0) (.slice none 0 0) (.int .i64 0) (.int .i64 q) (.int .i64 5)
 obtain ⟨z0, z1, z2, z3, z4, z5, z6, z7, z8, z9, z10⟩ := eleven h9
 obtain ⟨y0, y1, y2, y3, y4, y5, y6, y7, y8, y9, y10⟩ := eleven hgot
 have qf := free_of hgot
 have HB9 := Lib.hid b9
 clear h9 b9
 go_wp2_with fail
 refine bodyPost_ret (v := .agg #[.int .i64 0, .bool false, .bool false, .string ⟨#[]⟩, .int .i64 0, .string ⟨#[]⟩, .slice none 0 0, .slice none 0 0, .int .i64 0, .int .i64 q, .int .i64 5]) (by simp [results, Tryz.results22, go_sem, z0, z1, z2, z3, z4, z5, z6, z7, z8, z9, z10]) rfl ⟨HF.out _, HB9.out⟩
set_option maxRecDepth 100000 in
set_option maxHeartbeats 2000000 in
theorem rvalue_deepq {w : World} {l : List UInt8} {q : Nat} {d : Int} (_hl : l.length < 100000) (hq : q < l.length) (hx : nb l q = 34) (hd : 64 < d) :
   Calls Tryz.prog 22 #[.string (txt l), .int .i64 q, .int .i64 d] w fun e w' => TellE (HoldF w.heap.size w') l.length (value 0 (l.drop q)) e ∧ Below w.heap.size w w' := by
 have hs := txt_size l
 have hA := World.alloc_heap_new w (.cells #[.int .i64 0, .bool false, .bool false, .string ⟨#[]⟩, .int .i64 0, .string ⟨#[]⟩, .slice none 0 0, .slice none 0 0, .int .i64 0, .int .i64 0, .int .i64 0] 31)
 have bA : Below w.heap.size w (w.alloc (.cells #[.int .i64 0, .bool false, .bool false, .string ⟨#[]⟩, .int .i64 0, .string ⟨#[]⟩, .slice none 0 0, .slice none 0 0, .int .i64 0, .int .i64 0, .int .i64 0] 31)) := (Below.refl _ w).alloc (Nat.le_refl _) _
 have hlw : w.heap.size < (w.alloc (.cells #[.int .i64 0, .bool false, .bool false, .string ⟨#[]⟩, .int .i64 0, .string ⟨#[]⟩, .slice none 0 0, .slice none 0 0, .int .i64 0, .int .i64 0, .int .i64 0] 31)).heap.size := by simp
 have hb := fun (wx : World) (x : Int) => rbad_any (w := wx) (p := q) (e := x)
 simp only [badV] at hb
 have hno : value 0 (l.drop q) = .no (l.drop q) 5 := value_deep (head_of 34 (by decide) hx) (by decide)
 have HF := Lib.hid fun (C : Value → Val → Prop) => TellE.bad2 (C := C) (n := l.length) hno (show (5 : Int) ≠ 0 by decide) 0 false false ⟨#[]⟩ 0 ⟨#[]⟩ none 0 0 none 0 0 0 q
 have g1 : ¬ (l.length : Int) ≤ (q : Int) := by omega
 have g2 : decide (l.length ≤ q) = false := decide_eq_false (by omega)
 have hix := idx hq
 rw [hx] at hix
 have hdd : decide ((64 : Int) < d) = true := decide_eq_true hd
 have HBD := Lib.hid (hb (w.alloc (.cells #[.int .i64 0, .bool false, .bool false, .string ⟨#[]⟩, .int .i64 0, .string ⟨#[]⟩, .slice none 0 0, .slice none 0 0, .int .i64 0, .int .i64 0, .int .i64 0] 31)) 5)
 have HA := Lib.hid hA
 have HBA := Lib.hid bA
 clear hno hb hA bA
 go_enter Tryz.func22, Tryz.ntmps22
 go_wp2_with fail
 refine HBD.out.mono ?_
 rintro e w2 ⟨rfl, k2⟩
 have hgot := (k2.block _ (lt_of_heap HA.out)).trans HA.out
 have hbel := HBA.out.trans (k2.mono HBA.out.size)
 clear k2
 have h9 := set11 hgot (.int .i64 0) (.bool false) (.bool false) (.string ⟨#[]⟩) (.int .i64 0) (.string ⟨#[]⟩) (.slice none 0 0) (.slice none 0 0) (.int .i64 0) (.int .i64 q) (.int .i64 5)
 have b9 := below11 hbel (Nat.le_refl _) (.int .i64 0) (.bool false) (.bool false) (.string ⟨#[]⟩) (.int .i64 0) (.string ⟨#[]⟩) (.slice none 0 0) (.slice none 0 0) (.int .i64 0) (.int .i64 q) (.int .i64 5)
 obtain ⟨z0, z1, z2, z3, z4, z5, z6, z7, z8, z9, z10⟩ := eleven h9
 obtain ⟨y0, y1, y2, y3, y4, y5, y6, y7, y8, y9, y10⟩ := eleven hgot
 have qf := free_of hgot
 have HB9 := Lib.hid b9
 clear h9 b9
 go_wp2_with fail
 refine bodyPost_ret (v := .agg #[.int .i64 0, .bool false, .bool false, .string ⟨#[]⟩, .int .i64 0, .string ⟨#[]⟩, .slice none 0 0, .slice none 0 0, .int .i64 0, .int .i64 q, .int .i64 5]) (by simp [results, Tryz.results22, go_sem, z0, z1, z2, z3, z4, z5, z6, z7, z8, z9, z10]) rfl ⟨HF.out _, HB9.out⟩
set_option maxRecDepth 100000 in
set_option maxHeartbeats 2000000 in
theorem rvalue_deepl {w : World} {l : List UInt8} {q : Nat} {d : Int} (_hl : l.length < 100000) (hq : q < l.length) (hx : nb l q = 91) (hd : 64 < d) :
   Calls Tryz.prog 22 #[.string (txt l), .int .i64 q, .int .i64 d] w fun e w' => TellE (HoldF w.heap.size w') l.length (value 0 (l.drop q)) e ∧ Below w.heap.size w w' := by
 have hs := txt_size l
 have hA := World.alloc_heap_new w (.cells #[.int .i64 0, .bool false, .bool false, .string ⟨#[]⟩, .int .i64 0, .string ⟨#[]⟩, .slice none 0 0, .slice none 0 0, .int .i64 0, .int .i64 0, .int .i64 0] 31)
 have bA : Below w.heap.size w (w.alloc (.cells #[.int .i64 0, .bool false, .bool false, .string ⟨#[]⟩, .int .i64 0, .string ⟨#[]⟩, .slice none 0 0, .slice none 0 0, .int .i64 0, .int .i64 0, .int .i64 0] 31)) := (Below.refl _ w).alloc (Nat.le_refl _) _
 have hlw : w.heap.size < (w.alloc (.cells #[.int .i64 0, .bool false, .bool false, .string ⟨#[]⟩, .int .i64 0, .string ⟨#[]⟩, .slice none 0 0, .slice none 0 0, .int .i64 0, .int .i64 0, .int .i64 0] 31)).heap.size := by simp
 have hb := fun (wx : World) (x : Int) => rbad_any (w := wx) (p := q) (e := x)
 simp only [badV] at hb
 have hno : value 0 (l.drop q) = .no (l.drop q) 5 := value_deep (head_of 91 (by decide) hx) (by decide)
 have HF := Lib.hid fun (C : Value → Val → Prop) => TellE.bad2 (C := C) (n := l.length) hno (show (5 : Int) ≠ 0 by decide) 0 false false ⟨#[]⟩ 0 ⟨#[]⟩ none 0 0 none 0 0 0 q
 have g1 : ¬ (l.length : Int) ≤ (q : Int) := by omega
 have g2 : decide (l.length ≤ q) = false := decide_eq_false (by omega)
 have hix := idx hq
 rw [hx] at hix
 have hdd : decide ((64 : Int) < d) = true := decide_eq_true hd
 have HBD := Lib.hid (hb (w.alloc (.cells #[.int .i64 0, .bool false, .bool false, .string ⟨#[]⟩, .int .i64 0, .string ⟨#[]⟩, .slice none 0 0, .slice none 0 0, .int .i64 0, .int .i64 0, .int .i64 0] 31)) 5)
 have HA := Lib.hid hA
 have HBA := Lib.hid bA
 clear hno hb hA bA
 go_enter Tryz.func22, Tryz.ntmps22
 go_wp2_with fail
 refine HBD.out.mono ?_
 rintro e w2 ⟨rfl, k2⟩
 have hgot := (k2.block _ (lt_of_heap HA.out)).trans HA.out
 have hbel := HBA.out.trans (k2.mono HBA.out.size)
 clear k2
 have h9 := set11 hgot (.int .i64 0) (.bool false) (.bool false) (.string ⟨#[]⟩) (.int .i64 0) (.string ⟨#[]⟩) (.slice none 0 0) (.slice none 0 0) (.int .i64 0) (.int .i64 q) (.int .i64 5)
 have b9 := below11 hbel (Nat.le_refl _) (.int .i64 0) (.bool false) (.bool false) (.string ⟨#[]⟩) (.int .i64 0) (.string ⟨#[]⟩) (.slice none 0 0) (.slice none 0 0) (.int .i64 0) (.int .i64 q) (.int .i64 5)
 obtain ⟨z0, z1, z2, z3, z4, z5, z6, z7, z8, z9, z10⟩ := eleven h9
 obtain ⟨y0, y1, y2, y3, y4, y5, y6, y7, y8, y9, y10⟩ := eleven hgot
 have qf := free_of hgot
 have HB9 := Lib.hid b9
 clear h9 b9
 go_wp2_with fail
 refine bodyPost_ret (v := .agg #[.int .i64 0, .bool false, .bool false, .string ⟨#[]⟩, .int .i64 0, .string ⟨#[]⟩, .slice none 0 0, .slice none 0 0, .int .i64 0, .int .i64 q, .int .i64 5]) (by simp [results, Tryz.results22, go_sem, z0, z1, z2, z3, z4, z5, z6, z7, z8, z9, z10]) rfl ⟨HF.out _, HB9.out⟩
set_option maxRecDepth 100000 in
set_option maxHeartbeats 2000000 in
theorem rvalue_deepo {w : World} {l : List UInt8} {q : Nat} {d : Int} (_hl : l.length < 100000) (hq : q < l.length) (hx : nb l q = 123) (hd : 64 < d) :
   Calls Tryz.prog 22 #[.string (txt l), .int .i64 q, .int .i64 d] w fun e w' => TellE (HoldF w.heap.size w') l.length (value 0 (l.drop q)) e ∧ Below w.heap.size w w' := by
 have hs := txt_size l
 have hA := World.alloc_heap_new w (.cells #[.int .i64 0, .bool false, .bool false, .string ⟨#[]⟩, .int .i64 0, .string ⟨#[]⟩, .slice none 0 0, .slice none 0 0, .int .i64 0, .int .i64 0, .int .i64 0] 31)
 have bA : Below w.heap.size w (w.alloc (.cells #[.int .i64 0, .bool false, .bool false, .string ⟨#[]⟩, .int .i64 0, .string ⟨#[]⟩, .slice none 0 0, .slice none 0 0, .int .i64 0, .int .i64 0, .int .i64 0] 31)) := (Below.refl _ w).alloc (Nat.le_refl _) _
 have hlw : w.heap.size < (w.alloc (.cells #[.int .i64 0, .bool false, .bool false, .string ⟨#[]⟩, .int .i64 0, .string ⟨#[]⟩, .slice none 0 0, .slice none 0 0, .int .i64 0, .int .i64 0, .int .i64 0] 31)).heap.size := by simp
 have hb := fun (wx : World) (x : Int) => rbad_any (w := wx) (p := q) (e := x)
 simp only [badV] at hb
 have hno : value 0 (l.drop q) = .no (l.drop q) 5 := value_deep (head_of 123 (by decide) hx) (by decide)
 have HF := Lib.hid fun (C : Value → Val → Prop) => TellE.bad2 (C := C) (n := l.length) hno (show (5 : Int) ≠ 0 by decide) 0 false false ⟨#[]⟩ 0 ⟨#[]⟩ none 0 0 none 0 0 0 q
 have g1 : ¬ (l.length : Int) ≤ (q : Int) := by omega
 have g2 : decide (l.length ≤ q) = false := decide_eq_false (by omega)
 have hix := idx hq
 rw [hx] at hix
 have hdd : decide ((64 : Int) < d) = true := decide_eq_true hd
 have HBD := Lib.hid (hb (w.alloc (.cells #[.int .i64 0, .bool false, .bool false, .string ⟨#[]⟩, .int .i64 0, .string ⟨#[]⟩, .slice none 0 0, .slice none 0 0, .int .i64 0, .int .i64 0, .int .i64 0] 31)) 5)
 have HA := Lib.hid hA
 have HBA := Lib.hid bA
 clear hno hb hA bA
 go_enter Tryz.func22, Tryz.ntmps22
 go_wp2_with fail
 refine HBD.out.mono ?_
 rintro e w2 ⟨rfl, k2⟩
 have hgot := (k2.block _ (lt_of_heap HA.out)).trans HA.out
 have hbel := HBA.out.trans (k2.mono HBA.out.size)
 clear k2
 have h9 := set11 hgot (.int .i64 0) (.bool false) (.bool false) (.string ⟨#[]⟩) (.int .i64 0) (.string ⟨#[]⟩) (.slice none 0 0) (.slice none 0 0) (.int .i64 0) (.int .i64 q) (.int .i64 5)
 have b9 := below11 hbel (Nat.le_refl _) (.int .i64 0) (.bool false) (.bool false) (.string ⟨#[]⟩) (.int .i64 0) (.string ⟨#[]⟩) (.slice none 0 0) (.slice none 0 0) (.int .i64 0) (.int .i64 q) (.int .i64 5)
 obtain ⟨z0, z1, z2, z3, z4, z5, z6, z7, z8, z9, z10⟩ := eleven h9
 obtain ⟨y0, y1, y2, y3, y4, y5, y6, y7, y8, y9, y10⟩ := eleven hgot
 have qf := free_of hgot
 have HB9 := Lib.hid b9
 clear h9 b9
 go_wp2_with fail
 refine bodyPost_ret (v := .agg #[.int .i64 0, .bool false, .bool false, .string ⟨#[]⟩, .int .i64 0, .string ⟨#[]⟩, .slice none 0 0, .slice none 0 0, .int .i64 0, .int .i64 q, .int .i64 5]) (by simp [results, Tryz.results22, go_sem, z0, z1, z2, z3, z4, z5, z6, z7, z8, z9, z10]) rfl ⟨HF.out _, HB9.out⟩
set_option maxRecDepth 100000 in
set_option maxHeartbeats 2000000 in
theorem rvalue_deepm {w : World} {l : List UInt8} {q : Nat} {d : Int} (_hl : l.length < 100000) (hq : q < l.length) (hx : nb l q = 45) (hd : 64 < d) :
   Calls Tryz.prog 22 #[.string (txt l), .int .i64 q, .int .i64 d] w fun e w' => TellE (HoldF w.heap.size w') l.length (value 0 (l.drop q)) e ∧ Below w.heap.size w w' := by
 have hs := txt_size l
 have hA := World.alloc_heap_new w (.cells #[.int .i64 0, .bool false, .bool false, .string ⟨#[]⟩, .int .i64 0, .string ⟨#[]⟩, .slice none 0 0, .slice none 0 0, .int .i64 0, .int .i64 0, .int .i64 0] 31)
 have bA : Below w.heap.size w (w.alloc (.cells #[.int .i64 0, .bool false, .bool false, .string ⟨#[]⟩, .int .i64 0, .string ⟨#[]⟩, .slice none 0 0, .slice none 0 0, .int .i64 0, .int .i64 0, .int .i64 0] 31)) := (Below.refl _ w).alloc (Nat.le_refl _) _
 have hlw : w.heap.size < (w.alloc (.cells #[.int .i64 0, .bool false, .bool false, .string ⟨#[]⟩, .int .i64 0, .string ⟨#[]⟩, .slice none 0 0, .slice none 0 0, .int .i64 0, .int .i64 0, .int .i64 0] 31)).heap.size := by simp
 have hb := fun (wx : World) (x : Int) => rbad_any (w := wx) (p := q) (e := x)
 simp only [badV] at hb
 have hno : value 0 (l.drop q) = .no (l.drop q) 5 := value_deep (head_of 45 (by decide) hx) (by decide)
 have HF := Lib.hid fun (C : Value → Val → Prop) => TellE.bad2 (C := C) (n := l.length) hno (show (5 : Int) ≠ 0 by decide) 0 false false ⟨#[]⟩ 0 ⟨#[]⟩ none 0 0 none 0 0 0 q
 have g1 : ¬ (l.length : Int) ≤ (q : Int) := by omega
 have g2 : decide (l.length ≤ q) = false := decide_eq_false (by omega)
 have hix := idx hq
 rw [hx] at hix
 have hdd : decide ((64 : Int) < d) = true := decide_eq_true hd
 have HBD := Lib.hid (hb (w.alloc (.cells #[.int .i64 0, .bool false, .bool false, .string ⟨#[]⟩, .int .i64 0, .string ⟨#[]⟩, .slice none 0 0, .slice none 0 0, .int .i64 0, .int .i64 0, .int .i64 0] 31)) 5)
 have HA := Lib.hid hA
 have HBA := Lib.hid bA
 clear hno hb hA bA
 go_enter Tryz.func22, Tryz.ntmps22
 go_wp2_with fail
 refine HBD.out.mono ?_
 rintro e w2 ⟨rfl, k2⟩
 have hgot := (k2.block _ (lt_of_heap HA.out)).trans HA.out
 have hbel := HBA.out.trans (k2.mono HBA.out.size)
 clear k2
 have h9 := set11 hgot (.int .i64 0) (.bool false) (.bool false) (.string ⟨#[]⟩) (.int .i64 0) (.string ⟨#[]⟩) (.slice none 0 0) (.slice none 0 0) (.int .i64 0) (.int .i64 q) (.int .i64 5)
 have b9 := below11 hbel (Nat.le_refl _) (.int .i64 0) (.bool false) (.bool false) (.string ⟨#[]⟩) (.int .i64 0) (.string ⟨#[]⟩) (.slice none 0 0) (.slice none 0 0) (.int .i64 0) (.int .i64 q) (.int .i64 5)
 obtain ⟨z0, z1, z2, z3, z4, z5, z6, z7, z8, z9, z10⟩ := eleven h9
 obtain ⟨y0, y1, y2, y3, y4, y5, y6, y7, y8, y9, y10⟩ := eleven hgot
 have qf := free_of hgot
 have HB9 := Lib.hid b9
 clear h9 b9
 go_wp2_with fail
 refine bodyPost_ret (v := .agg #[.int .i64 0, .bool false, .bool false, .string ⟨#[]⟩, .int .i64 0, .string ⟨#[]⟩, .slice none 0 0, .slice none 0 0, .int .i64 0, .int .i64 q, .int .i64 5]) (by simp [results, Tryz.results22, go_sem, z0, z1, z2, z3, z4, z5, z6, z7, z8, z9, z10]) rfl ⟨HF.out _, HB9.out⟩
set_option maxRecDepth 100000 in
set_option maxHeartbeats 2000000 in
theorem rvalue_deepd {w : World} {l : List UInt8} {q : Nat} {d : Int} (_hl : l.length < 100000) (hq : q < l.length) (hx1 : 48 ≤ nb l q) (hx2 : nb l q ≤ 57) (hd : 64 < d) :
   Calls Tryz.prog 22 #[.string (txt l), .int .i64 q, .int .i64 d] w fun e w' => TellE (HoldF w.heap.size w') l.length (value 0 (l.drop q)) e ∧ Below w.heap.size w w' := by
 have hs := txt_size l
 have hA := World.alloc_heap_new w (.cells #[.int .i64 0, .bool false, .bool false, .string ⟨#[]⟩, .int .i64 0, .string ⟨#[]⟩, .slice none 0 0, .slice none 0 0, .int .i64 0, .int .i64 0, .int .i64 0] 31)
 have bA : Below w.heap.size w (w.alloc (.cells #[.int .i64 0, .bool false, .bool false, .string ⟨#[]⟩, .int .i64 0, .string ⟨#[]⟩, .slice none 0 0, .slice none 0 0, .int .i64 0, .int .i64 0, .int .i64 0] 31)) := (Below.refl _ w).alloc (Nat.le_refl _) _
 have hlw : w.heap.size < (w.alloc (.cells #[.int .i64 0, .bool false, .bool false, .string ⟨#[]⟩, .int .i64 0, .string ⟨#[]⟩, .slice none 0 0, .slice none 0 0, .int .i64 0, .int .i64 0, .int .i64 0] 31)).heap.size := by simp
 have hb := fun (wx : World) (x : Int) => rbad_any (w := wx) (p := q) (e := x)
 simp only [badV] at hb
 have hno : value 0 (l.drop q) = .no (l.drop q) 5 := by
   rw [nb_get hq] at hx1 hx2
   have hh : (l.drop q).head? = some l[q] := by rw [List.drop_eq_getElem_cons hq]; rfl
   exact value_deep hh (begins_digit (by unfold digit; simp; omega))
 have HF := Lib.hid fun (C : Value → Val → Prop) => TellE.bad2 (C := C) (n := l.length) hno (show (5 : Int) ≠ 0 by decide) 0 false false ⟨#[]⟩ 0 ⟨#[]⟩ none 0 0 none 0 0 0 q
 have g1 : ¬ (l.length : Int) ≤ (q : Int) := by omega
 have g2 : decide (l.length ≤ q) = false := decide_eq_false (by omega)
 have hix := idx hq
 have hdd : decide ((64 : Int) < d) = true := decide_eq_true hd
 have d1 : decide (48 ≤ nb l q) = true := decide_eq_true (by omega)
 have d1' : (48 : Int) ≤ ((nb l q : Nat) : Int) := by omega
 have d2 : decide (nb l q ≤ 57) = true := decide_eq_true (by omega)
 have d2' : ((nb l q : Nat) : Int) ≤ (57 : Int) := by omega
 have n110 : (((nb l q : Nat) : Int) != 110) = true := by simp; omega
 have n116 : (((nb l q : Nat) : Int) != 116) = true := by simp; omega
 have n102 : (((nb l q : Nat) : Int) != 102) = true := by simp; omega
 have n34 : (((nb l q : Nat) : Int) != 34) = true := by simp; omega
 have n91 : (((nb l q : Nat) : Int) != 91) = true := by simp; omega
 have n123 : (((nb l q : Nat) : Int) != 123) = true := by simp; omega
 generalize nb l q = x at *
 have HBD := Lib.hid (hb (w.alloc (.cells #[.int .i64 0, .bool false, .bool false, .string ⟨#[]⟩, .int .i64 0, .string ⟨#[]⟩, .slice none 0 0, .slice none 0 0, .int .i64 0, .int .i64 0, .int .i64 0] 31)) 5)
 have HA := Lib.hid hA
 have HBA := Lib.hid bA
 clear hno hb hA bA
 go_enter Tryz.func22, Tryz.ntmps22
 go_wp2_with fail
 refine HBD.out.mono ?_
 rintro e w2 ⟨rfl, k2⟩
 have hgot := (k2.block _ (lt_of_heap HA.out)).trans HA.out
 have hbel := HBA.out.trans (k2.mono HBA.out.size)
 clear k2
 have h9 := set11 hgot (.int .i64 0) (.bool false) (.bool false) (.string ⟨#[]⟩) (.int .i64 0) (.string ⟨#[]⟩) (.slice none 0 0) (.slice none 0 0) (.int .i64 0) (.int .i64 q) (.int .i64 5)
 have b9 := below11 hbel (Nat.le_refl _) (.int .i64 0) (.bool false) (.bool false) (.string ⟨#[]⟩) (.int .i64 0) (.string ⟨#[]⟩) (.slice none 0 0) (.slice none 0 0) (.int .i64 0) (.int .i64 q) (.int .i64 5)
 obtain ⟨z0, z1, z2, z3, z4, z5, z6, z7, z8, z9, z10⟩ := eleven h9
 obtain ⟨y0, y1, y2, y3, y4, y5, y6, y7, y8, y9, y10⟩ := eleven hgot
 have qf := free_of hgot
 have HB9 := Lib.hid b9
 clear h9 b9
 go_wp2_with fail
 refine bodyPost_ret (v := .agg #[.int .i64 0, .bool false, .bool false, .string ⟨#[]⟩, .int .i64 0, .string ⟨#[]⟩, .slice none 0 0, .slice none 0 0, .int .i64 0, .int .i64 q, .int .i64 5]) (by simp [results, Tryz.results22, go_sem, z0, z1, z2, z3, z4, z5, z6, z7, z8, z9, z10]) rfl ⟨HF.out _, HB9.out⟩
set_option maxRecDepth 100000 in
set_option maxHeartbeats 2000000 in
theorem rvalue_num {w : World} {l : List UInt8} {q K : Nat} {d : Int} (hl : l.length < 100000) (hq : q < l.length) (hx1 : 48 ≤ nb l q) (hx2 : nb l q ≤ 57) (hd : d ≤ 64) :
   Calls Tryz.prog 22 #[.string (txt l), .int .i64 q, .int .i64 d] w fun e w' => TellE (HoldF w.heap.size w') l.length (value (K + 1) (l.drop q)) e ∧ Below w.heap.size w w' := by
 have hs := txt_size l
 have hA := World.alloc_heap_new w (.cells #[.int .i64 0, .bool false, .bool false, .string ⟨#[]⟩, .int .i64 0, .string ⟨#[]⟩, .slice none 0 0, .slice none 0 0, .int .i64 0, .int .i64 0, .int .i64 0] 31)
 have bA : Below w.heap.size w (w.alloc (.cells #[.int .i64 0, .bool false, .bool false, .string ⟨#[]⟩, .int .i64 0, .string ⟨#[]⟩, .slice none 0 0, .slice none 0 0, .int .i64 0, .int .i64 0, .int .i64 0] 31)) := (Below.refl _ w).alloc (Nat.le_refl _) _
 have hlw : w.heap.size < (w.alloc (.cells #[.int .i64 0, .bool false, .bool false, .string ⟨#[]⟩, .int .i64 0, .string ⟨#[]⟩, .slice none 0 0, .slice none 0 0, .int .i64 0, .int .i64 0, .int .i64 0] 31)).heap.size := by simp
 have hb := fun (wx : World) (x : Int) => rbad_any (w := wx) (p := q) (e := x)
 simp only [badV] at hb
 have hdd : decide ((64 : Int) < d) = false := decide_eq_false (by omega)
 have hdd' : ¬ (64 : Int) < d := by omega
 have hval : value (K + 1) (l.drop q) = number (l.drop q) := by
   rw [nb_get hq] at hx1 hx2
   have hh : (l.drop q).head? = some l[q] := by rw [List.drop_eq_getElem_cons hq]; rfl
   have hdg : digit l[q] = true := by unfold digit; simp; omega
   rw [value_succ hh (begins_digit hdg), read_digit hh hdg]
 have hcall := rnumber_tells (w := w.alloc (.cells #[.int .i64 0, .bool false, .bool false, .string ⟨#[]⟩, .int .i64 0, .string ⟨#[]⟩, .slice none 0 0, .slice none 0 0, .int .i64 0, .int .i64 0, .int .i64 0] 31)) (l := l) (q := q) hl (by omega)
 rw [← hval] at hcall
 have g1 : ¬ (l.length : Int) ≤ (q : Int) := by omega
 have g2 : decide (l.length ≤ q) = false := decide_eq_false (by omega)
 have hix := idx hq
 have d1 : decide (48 ≤ nb l q) = true := decide_eq_true (by omega)
 have d1' : (48 : Int) ≤ ((nb l q : Nat) : Int) := by omega
 have d2 : decide (nb l q ≤ 57) = true := decide_eq_true (by omega)
 have d2' : ((nb l q : Nat) : Int) ≤ (57 : Int) := by omega
 have n110 : (((nb l q : Nat) : Int) != 110) = true := by simp; omega
 have n116 : (((nb l q : Nat) : Int) != 116) = true := by simp; omega
 have n102 : (((nb l q : Nat) : Int) != 102) = true := by simp; omega
 have n34 : (((nb l q : Nat) : Int) != 34) = true := by simp; omega
 have n91 : (((nb l q : Nat) : Int) != 91) = true := by simp; omega
 have n123 : (((nb l q : Nat) : Int) != 123) = true := by simp; omega
 generalize nb l q = x at *
 have HC := Lib.hid hcall
 have HA := Lib.hid hA
 have HBA := Lib.hid bA
 clear hval hcall hb hA bA
 go_enter Tryz.func22, Tryz.ntmps22
 go_wp2_with fail
 refine HC.out.mono ?_
 rintro e w2 ⟨hT, k2⟩
 obtain ⟨k0, b0, b1, dd, x0, tt, a1, n1, m1, a2, n2, m2, aa, pp, kk, rfl, -⟩ := id hT
 have hgot := (k2.block _ (lt_of_heap HA.out)).trans HA.out
 have hbel := HBA.out.trans (k2.mono HBA.out.size)
 have HT := Lib.hid hT
 clear k2 hT
 have h9 := set11 hgot (.int .i64 k0) (.bool b0) (.bool b1) (.string dd) (.int .i64 x0) (.string tt) (.slice a1 n1 m1) (.slice a2 n2 m2) (.int .i64 aa) (.int .i64 pp) (.int .i64 kk)
 have b9 := below11 hbel (Nat.le_refl _) (.int .i64 k0) (.bool b0) (.bool b1) (.string dd) (.int .i64 x0) (.string tt) (.slice a1 n1 m1) (.slice a2 n2 m2) (.int .i64 aa) (.int .i64 pp) (.int .i64 kk)
 obtain ⟨z0, z1, z2, z3, z4, z5, z6, z7, z8, z9, z10⟩ := eleven h9
 obtain ⟨y0, y1, y2, y3, y4, y5, y6, y7, y8, y9, y10⟩ := eleven hgot
 have qf := free_of hgot
 have HB9 := Lib.hid b9
 clear h9 b9
 go_wp2_with fail
 refine bodyPost_ret (v := .agg #[.int .i64 k0, .bool b0, .bool b1, .string dd, .int .i64 x0, .string tt, .slice a1 n1 m1, .slice a2 n2 m2, .int .i64 aa, .int .i64 pp, .int .i64 kk]) (by simp [results, Tryz.results22, go_sem, z0, z1, z2, z3, z4, z5, z6, z7, z8, z9, z10]) rfl ⟨HT.out.map fun u x h => holdF_set11 h hlw (Nat.le_of_lt hlw) (.int .i64 k0) (.bool b0) (.bool b1) (.string dd) (.int .i64 x0) (.string tt) (.slice a1 n1 m1) (.slice a2 n2 m2) (.int .i64 aa) (.int .i64 pp) (.int .i64 kk), HB9.out⟩
set_option maxRecDepth 100000 in
set_option maxHeartbeats 2000000 in
theorem rvalue_min {w : World} {l : List UInt8} {q K : Nat} {d : Int} (hl : l.length < 100000) (hq : q < l.length) (hx : nb l q = 45) (hd : d ≤ 64) :
   Calls Tryz.prog 22 #[.string (txt l), .int .i64 q, .int .i64 d] w fun e w' => TellE (HoldF w.heap.size w') l.length (value (K + 1) (l.drop q)) e ∧ Below w.heap.size w w' := by
 have hs := txt_size l
 have hA := World.alloc_heap_new w (.cells #[.int .i64 0, .bool false, .bool false, .string ⟨#[]⟩, .int .i64 0, .string ⟨#[]⟩, .slice none 0 0, .slice none 0 0, .int .i64 0, .int .i64 0, .int .i64 0] 31)
 have bA : Below w.heap.size w (w.alloc (.cells #[.int .i64 0, .bool false, .bool false, .string ⟨#[]⟩, .int .i64 0, .string ⟨#[]⟩, .slice none 0 0, .slice none 0 0, .int .i64 0, .int .i64 0, .int .i64 0] 31)) := (Below.refl _ w).alloc (Nat.le_refl _) _
 have hlw : w.heap.size < (w.alloc (.cells #[.int .i64 0, .bool false, .bool false, .string ⟨#[]⟩, .int .i64 0, .string ⟨#[]⟩, .slice none 0 0, .slice none 0 0, .int .i64 0, .int .i64 0, .int .i64 0] 31)).heap.size := by simp
 have hb := fun (wx : World) (x : Int) => rbad_any (w := wx) (p := q) (e := x)
 simp only [badV] at hb
 have hdd : decide ((64 : Int) < d) = false := decide_eq_false (by omega)
 have hdd' : ¬ (64 : Int) < d := by omega
 have hval : value (K + 1) (l.drop q) = number (l.drop q) := by
   have hh := head_of 45 (by decide) hx
   rw [value_succ hh (by decide), read_digit hh (by decide)]
 have hcall := rnumber_tells (w := w.alloc (.cells #[.int .i64 0, .bool false, .bool false, .string ⟨#[]⟩, .int .i64 0, .string ⟨#[]⟩, .slice none 0 0, .slice none 0 0, .int .i64 0, .int .i64 0, .int .i64 0] 31)) (l := l) (q := q) hl (by omega)
 rw [← hval] at hcall
 have g1 : ¬ (l.length : Int) ≤ (q : Int) := by omega
 have g2 : decide (l.length ≤ q) = false := decide_eq_false (by omega)
 have hix := idx hq
 rw [hx] at hix
 have HC := Lib.hid hcall
 have HA := Lib.hid hA
 have HBA := Lib.hid bA
 clear hval hcall hb hA bA
 go_enter Tryz.func22, Tryz.ntmps22
 go_wp2_with fail
 refine HC.out.mono ?_
 rintro e w2 ⟨hT, k2⟩
 obtain ⟨k0, b0, b1, dd, x0, tt, a1, n1, m1, a2, n2, m2, aa, pp, kk, rfl, -⟩ := id hT
 have hgot := (k2.block _ (lt_of_heap HA.out)).trans HA.out
 have hbel := HBA.out.trans (k2.mono HBA.out.size)
 have HT := Lib.hid hT
 clear k2 hT
 have h9 := set11 hgot (.int .i64 k0) (.bool b0) (.bool b1) (.string dd) (.int .i64 x0) (.string tt) (.slice a1 n1 m1) (.slice a2 n2 m2) (.int .i64 aa) (.int .i64 pp) (.int .i64 kk)
 have b9 := below11 hbel (Nat.le_refl _) (.int .i64 k0) (.bool b0) (.bool b1) (.string dd) (.int .i64 x0) (.string tt) (.slice a1 n1 m1) (.slice a2 n2 m2) (.int .i64 aa) (.int .i64 pp) (.int .i64 kk)
 obtain ⟨z0, z1, z2, z3, z4, z5, z6, z7, z8, z9, z10⟩ := eleven h9
 obtain ⟨y0, y1, y2, y3, y4, y5, y6, y7, y8, y9, y10⟩ := eleven hgot
 have qf := free_of hgot
 have HB9 := Lib.hid b9
 clear h9 b9
 go_wp2_with fail
 refine bodyPost_ret (v := .agg #[.int .i64 k0, .bool b0, .bool b1, .string dd, .int .i64 x0, .string tt, .slice a1 n1 m1, .slice a2 n2 m2, .int .i64 aa, .int .i64 pp, .int .i64 kk]) (by simp [results, Tryz.results22, go_sem, z0, z1, z2, z3, z4, z5, z6, z7, z8, z9, z10]) rfl ⟨HT.out.map fun u x h => holdF_set11 h hlw (Nat.le_of_lt hlw) (.int .i64 k0) (.bool b0) (.bool b1) (.string dd) (.int .i64 x0) (.string tt) (.slice a1 n1 m1) (.slice a2 n2 m2) (.int .i64 aa) (.int .i64 pp) (.int .i64 kk), HB9.out⟩
set_option maxRecDepth 100000 in
set_option maxHeartbeats 2000000 in
theorem rvalue_null {w : World} {l : List UInt8} {q K : Nat} {d : Int} (hl : l.length < 100000) (hq : q < l.length) (hx : nb l q = 110) (hd : d ≤ 64) :
   Calls Tryz.prog 22 #[.string (txt l), .int .i64 q, .int .i64 d] w fun e w' => TellE (HoldF w.heap.size w') l.length (value (K + 1) (l.drop q)) e ∧ Below w.heap.size w w' := by
 have hs := txt_size l
 have hA := World.alloc_heap_new w (.cells #[.int .i64 0, .bool false, .bool false, .string ⟨#[]⟩, .int .i64 0, .string ⟨#[]⟩, .slice none 0 0, .slice none 0 0, .int .i64 0, .int .i64 0, .int .i64 0] 31)
 have bA : Below w.heap.size w (w.alloc (.cells #[.int .i64 0, .bool false, .bool false, .string ⟨#[]⟩, .int .i64 0, .string ⟨#[]⟩, .slice none 0 0, .slice none 0 0, .int .i64 0, .int .i64 0, .int .i64 0] 31)) := (Below.refl _ w).alloc (Nat.le_refl _) _
 have hlw : w.heap.size < (w.alloc (.cells #[.int .i64 0, .bool false, .bool false, .string ⟨#[]⟩, .int .i64 0, .string ⟨#[]⟩, .slice none 0 0, .slice none 0 0, .int .i64 0, .int .i64 0, .int .i64 0] 31)).heap.size := by simp
 have hb := fun (wx : World) (x : Int) => rbad_any (w := wx) (p := q) (e := x)
 simp only [badV] at hb
 have hdd : decide ((64 : Int) < d) = false := decide_eq_false (by omega)
 have hdd' : ¬ (64 : Int) < d := by omega
 have hval : value (K + 1) (l.drop q) = word ⟨1, false, Num.zero, [], [], []⟩ [110, 117, 108, 108] (l.drop q) := by
   have hh := head_of 110 (by decide) hx
   rw [value_succ hh (by decide)]
   unfold read
   rw [hh]
   rfl
 have hcall := rword_tells (w := w.alloc (.cells #[.int .i64 0, .bool false, .bool false, .string ⟨#[]⟩, .int .i64 0, .string ⟨#[]⟩, .slice none 0 0, .slice none 0 0, .int .i64 0, .int .i64 0, .int .i64 0] 31)) (l := l) (W := [110, 117, 108, 108]) (q := q) (k0 := 1) (bl := false) (bm := false) (d := ⟨#[]⟩) (x0 := 0) (t := ⟨#[]⟩) (a1 := none) (n1 := 0) (m1 := 0) (a2 := none) (n2 := 0) (m2 := 0) ⟨1, false, Num.zero, [], [], []⟩ (fun wx => hold_flat 1 false Num.zero []) hl (by decide) (by omega)
 rw [← hval] at hcall
 have g1 : ¬ (l.length : Int) ≤ (q : Int) := by omega
 have g2 : decide (l.length ≤ q) = false := decide_eq_false (by omega)
 have hix := idx hq
 rw [hx] at hix
 have tw : (⟨#[110, 117, 108, 108]⟩ : ByteArray) = txt [110, 117, 108, 108] := rfl
 have HC := Lib.hid hcall
 have HA := Lib.hid hA
 have HBA := Lib.hid bA
 clear hval hcall hb hA bA
 go_enter Tryz.func22, Tryz.ntmps22
 go_wp2_with fail
 refine HC.out.mono ?_
 rintro e w2 ⟨hT, k2⟩
 obtain ⟨k0, b0, b1, dd, x0, tt, a1, n1, m1, a2, n2, m2, aa, pp, kk, rfl, -⟩ := id hT
 have hgot := (k2.block _ (lt_of_heap HA.out)).trans HA.out
 have hbel := HBA.out.trans (k2.mono HBA.out.size)
 have HT := Lib.hid hT
 clear k2 hT
 have h9 := set11 hgot (.int .i64 k0) (.bool b0) (.bool b1) (.string dd) (.int .i64 x0) (.string tt) (.slice a1 n1 m1) (.slice a2 n2 m2) (.int .i64 aa) (.int .i64 pp) (.int .i64 kk)
 have b9 := below11 hbel (Nat.le_refl _) (.int .i64 k0) (.bool b0) (.bool b1) (.string dd) (.int .i64 x0) (.string tt) (.slice a1 n1 m1) (.slice a2 n2 m2) (.int .i64 aa) (.int .i64 pp) (.int .i64 kk)
 obtain ⟨z0, z1, z2, z3, z4, z5, z6, z7, z8, z9, z10⟩ := eleven h9
 obtain ⟨y0, y1, y2, y3, y4, y5, y6, y7, y8, y9, y10⟩ := eleven hgot
 have qf := free_of hgot
 have HB9 := Lib.hid b9
 clear h9 b9
 go_wp2_with fail
 refine bodyPost_ret (v := .agg #[.int .i64 k0, .bool b0, .bool b1, .string dd, .int .i64 x0, .string tt, .slice a1 n1 m1, .slice a2 n2 m2, .int .i64 aa, .int .i64 pp, .int .i64 kk]) (by simp [results, Tryz.results22, go_sem, z0, z1, z2, z3, z4, z5, z6, z7, z8, z9, z10]) rfl ⟨HT.out.map fun u x h => holdF_set11 h hlw (Nat.le_of_lt hlw) (.int .i64 k0) (.bool b0) (.bool b1) (.string dd) (.int .i64 x0) (.string tt) (.slice a1 n1 m1) (.slice a2 n2 m2) (.int .i64 aa) (.int .i64 pp) (.int .i64 kk), HB9.out⟩
set_option maxRecDepth 100000 in
set_option maxHeartbeats 2000000 in
theorem rvalue_true {w : World} {l : List UInt8} {q K : Nat} {d : Int} (hl : l.length < 100000) (hq : q < l.length) (hx : nb l q = 116) (hd : d ≤ 64) :
   Calls Tryz.prog 22 #[.string (txt l), .int .i64 q, .int .i64 d] w fun e w' => TellE (HoldF w.heap.size w') l.length (value (K + 1) (l.drop q)) e ∧ Below w.heap.size w w' := by
 have hs := txt_size l
 have hA := World.alloc_heap_new w (.cells #[.int .i64 0, .bool false, .bool false, .string ⟨#[]⟩, .int .i64 0, .string ⟨#[]⟩, .slice none 0 0, .slice none 0 0, .int .i64 0, .int .i64 0, .int .i64 0] 31)
 have bA : Below w.heap.size w (w.alloc (.cells #[.int .i64 0, .bool false, .bool false, .string ⟨#[]⟩, .int .i64 0, .string ⟨#[]⟩, .slice none 0 0, .slice none 0 0, .int .i64 0, .int .i64 0, .int .i64 0] 31)) := (Below.refl _ w).alloc (Nat.le_refl _) _
 have hlw : w.heap.size < (w.alloc (.cells #[.int .i64 0, .bool false, .bool false, .string ⟨#[]⟩, .int .i64 0, .string ⟨#[]⟩, .slice none 0 0, .slice none 0 0, .int .i64 0, .int .i64 0, .int .i64 0] 31)).heap.size := by simp
 have hb := fun (wx : World) (x : Int) => rbad_any (w := wx) (p := q) (e := x)
 simp only [badV] at hb
 have hdd : decide ((64 : Int) < d) = false := decide_eq_false (by omega)
 have hdd' : ¬ (64 : Int) < d := by omega
 have hval : value (K + 1) (l.drop q) = word ⟨2, true, Num.zero, [], [], []⟩ [116, 114, 117, 101] (l.drop q) := by
   have hh := head_of 116 (by decide) hx
   rw [value_succ hh (by decide)]
   unfold read
   rw [hh]
   rfl
 have hcall := rword_tells (w := w.alloc (.cells #[.int .i64 0, .bool false, .bool false, .string ⟨#[]⟩, .int .i64 0, .string ⟨#[]⟩, .slice none 0 0, .slice none 0 0, .int .i64 0, .int .i64 0, .int .i64 0] 31)) (l := l) (W := [116, 114, 117, 101]) (q := q) (k0 := 2) (bl := true) (bm := false) (d := ⟨#[]⟩) (x0 := 0) (t := ⟨#[]⟩) (a1 := none) (n1 := 0) (m1 := 0) (a2 := none) (n2 := 0) (m2 := 0) ⟨2, true, Num.zero, [], [], []⟩ (fun wx => hold_flat 2 true Num.zero []) hl (by decide) (by omega)
 rw [← hval] at hcall
 have g1 : ¬ (l.length : Int) ≤ (q : Int) := by omega
 have g2 : decide (l.length ≤ q) = false := decide_eq_false (by omega)
 have hix := idx hq
 rw [hx] at hix
 have tw : (⟨#[116, 114, 117, 101]⟩ : ByteArray) = txt [116, 114, 117, 101] := rfl
 have HC := Lib.hid hcall
 have HA := Lib.hid hA
 have HBA := Lib.hid bA
 clear hval hcall hb hA bA
 go_enter Tryz.func22, Tryz.ntmps22
 go_wp2_with fail
 refine HC.out.mono ?_
 rintro e w2 ⟨hT, k2⟩
 obtain ⟨k0, b0, b1, dd, x0, tt, a1, n1, m1, a2, n2, m2, aa, pp, kk, rfl, -⟩ := id hT
 have hgot := (k2.block _ (lt_of_heap HA.out)).trans HA.out
 have hbel := HBA.out.trans (k2.mono HBA.out.size)
 have HT := Lib.hid hT
 clear k2 hT
 have h9 := set11 hgot (.int .i64 k0) (.bool b0) (.bool b1) (.string dd) (.int .i64 x0) (.string tt) (.slice a1 n1 m1) (.slice a2 n2 m2) (.int .i64 aa) (.int .i64 pp) (.int .i64 kk)
 have b9 := below11 hbel (Nat.le_refl _) (.int .i64 k0) (.bool b0) (.bool b1) (.string dd) (.int .i64 x0) (.string tt) (.slice a1 n1 m1) (.slice a2 n2 m2) (.int .i64 aa) (.int .i64 pp) (.int .i64 kk)
 obtain ⟨z0, z1, z2, z3, z4, z5, z6, z7, z8, z9, z10⟩ := eleven h9
 obtain ⟨y0, y1, y2, y3, y4, y5, y6, y7, y8, y9, y10⟩ := eleven hgot
 have qf := free_of hgot
 have HB9 := Lib.hid b9
 clear h9 b9
 go_wp2_with fail
 refine bodyPost_ret (v := .agg #[.int .i64 k0, .bool b0, .bool b1, .string dd, .int .i64 x0, .string tt, .slice a1 n1 m1, .slice a2 n2 m2, .int .i64 aa, .int .i64 pp, .int .i64 kk]) (by simp [results, Tryz.results22, go_sem, z0, z1, z2, z3, z4, z5, z6, z7, z8, z9, z10]) rfl ⟨HT.out.map fun u x h => holdF_set11 h hlw (Nat.le_of_lt hlw) (.int .i64 k0) (.bool b0) (.bool b1) (.string dd) (.int .i64 x0) (.string tt) (.slice a1 n1 m1) (.slice a2 n2 m2) (.int .i64 aa) (.int .i64 pp) (.int .i64 kk), HB9.out⟩
set_option maxRecDepth 100000 in
set_option maxHeartbeats 2000000 in
theorem rvalue_false {w : World} {l : List UInt8} {q K : Nat} {d : Int} (hl : l.length < 100000) (hq : q < l.length) (hx : nb l q = 102) (hd : d ≤ 64) :
   Calls Tryz.prog 22 #[.string (txt l), .int .i64 q, .int .i64 d] w fun e w' => TellE (HoldF w.heap.size w') l.length (value (K + 1) (l.drop q)) e ∧ Below w.heap.size w w' := by
 have hs := txt_size l
 have hA := World.alloc_heap_new w (.cells #[.int .i64 0, .bool false, .bool false, .string ⟨#[]⟩, .int .i64 0, .string ⟨#[]⟩, .slice none 0 0, .slice none 0 0, .int .i64 0, .int .i64 0, .int .i64 0] 31)
 have bA : Below w.heap.size w (w.alloc (.cells #[.int .i64 0, .bool false, .bool false, .string ⟨#[]⟩, .int .i64 0, .string ⟨#[]⟩, .slice none 0 0, .slice none 0 0, .int .i64 0, .int .i64 0, .int .i64 0] 31)) := (Below.refl _ w).alloc (Nat.le_refl _) _
 have hlw : w.heap.size < (w.alloc (.cells #[.int .i64 0, .bool false, .bool false, .string ⟨#[]⟩, .int .i64 0, .string ⟨#[]⟩, .slice none 0 0, .slice none 0 0, .int .i64 0, .int .i64 0, .int .i64 0] 31)).heap.size := by simp
 have hb := fun (wx : World) (x : Int) => rbad_any (w := wx) (p := q) (e := x)
 simp only [badV] at hb
 have hdd : decide ((64 : Int) < d) = false := decide_eq_false (by omega)
 have hdd' : ¬ (64 : Int) < d := by omega
 have hval : value (K + 1) (l.drop q) = word ⟨2, false, Num.zero, [], [], []⟩ [102, 97, 108, 115, 101] (l.drop q) := by
   have hh := head_of 102 (by decide) hx
   rw [value_succ hh (by decide)]
   unfold read
   rw [hh]
   rfl
 have hcall := rword_tells (w := w.alloc (.cells #[.int .i64 0, .bool false, .bool false, .string ⟨#[]⟩, .int .i64 0, .string ⟨#[]⟩, .slice none 0 0, .slice none 0 0, .int .i64 0, .int .i64 0, .int .i64 0] 31)) (l := l) (W := [102, 97, 108, 115, 101]) (q := q) (k0 := 2) (bl := false) (bm := false) (d := ⟨#[]⟩) (x0 := 0) (t := ⟨#[]⟩) (a1 := none) (n1 := 0) (m1 := 0) (a2 := none) (n2 := 0) (m2 := 0) ⟨2, false, Num.zero, [], [], []⟩ (fun wx => hold_flat 2 false Num.zero []) hl (by decide) (by omega)
 rw [← hval] at hcall
 have g1 : ¬ (l.length : Int) ≤ (q : Int) := by omega
 have g2 : decide (l.length ≤ q) = false := decide_eq_false (by omega)
 have hix := idx hq
 rw [hx] at hix
 have tw : (⟨#[102, 97, 108, 115, 101]⟩ : ByteArray) = txt [102, 97, 108, 115, 101] := rfl
 have HC := Lib.hid hcall
 have HA := Lib.hid hA
 have HBA := Lib.hid bA
 clear hval hcall hb hA bA
 go_enter Tryz.func22, Tryz.ntmps22
 go_wp2_with fail
 refine HC.out.mono ?_
 rintro e w2 ⟨hT, k2⟩
 obtain ⟨k0, b0, b1, dd, x0, tt, a1, n1, m1, a2, n2, m2, aa, pp, kk, rfl, -⟩ := id hT
 have hgot := (k2.block _ (lt_of_heap HA.out)).trans HA.out
 have hbel := HBA.out.trans (k2.mono HBA.out.size)
 have HT := Lib.hid hT
 clear k2 hT
 have h9 := set11 hgot (.int .i64 k0) (.bool b0) (.bool b1) (.string dd) (.int .i64 x0) (.string tt) (.slice a1 n1 m1) (.slice a2 n2 m2) (.int .i64 aa) (.int .i64 pp) (.int .i64 kk)
 have b9 := below11 hbel (Nat.le_refl _) (.int .i64 k0) (.bool b0) (.bool b1) (.string dd) (.int .i64 x0) (.string tt) (.slice a1 n1 m1) (.slice a2 n2 m2) (.int .i64 aa) (.int .i64 pp) (.int .i64 kk)
 obtain ⟨z0, z1, z2, z3, z4, z5, z6, z7, z8, z9, z10⟩ := eleven h9
 obtain ⟨y0, y1, y2, y3, y4, y5, y6, y7, y8, y9, y10⟩ := eleven hgot
 have qf := free_of hgot
 have HB9 := Lib.hid b9
 clear h9 b9
 go_wp2_with fail
 refine bodyPost_ret (v := .agg #[.int .i64 k0, .bool b0, .bool b1, .string dd, .int .i64 x0, .string tt, .slice a1 n1 m1, .slice a2 n2 m2, .int .i64 aa, .int .i64 pp, .int .i64 kk]) (by simp [results, Tryz.results22, go_sem, z0, z1, z2, z3, z4, z5, z6, z7, z8, z9, z10]) rfl ⟨HT.out.map fun u x h => holdF_set11 h hlw (Nat.le_of_lt hlw) (.int .i64 k0) (.bool b0) (.bool b1) (.string dd) (.int .i64 x0) (.string tt) (.slice a1 n1 m1) (.slice a2 n2 m2) (.int .i64 aa) (.int .i64 pp) (.int .i64 kk), HB9.out⟩
set_option maxRecDepth 100000 in
set_option maxHeartbeats 2000000 in
theorem rvalue_list {w : World} {l : List UInt8} {q K : Nat} {d : Int} (hl : l.length < 100000) (hq : q < l.length) (hx : nb l q = 91) (hd : d ≤ 64) (hd0 : 0 ≤ d) (hv : ∀ (wx : World) (p : Nat), p ≤ l.length → Calls Tryz.prog 22 #[.string (txt l), .int .i64 p, .int .i64 (d + 1)] wx fun e w' => TellE (HoldF wx.heap.size w') l.length (value K (l.drop p)) e ∧ Below wx.heap.size wx w') :
   Calls Tryz.prog 22 #[.string (txt l), .int .i64 q, .int .i64 d] w fun e w' => TellE (HoldF w.heap.size w') l.length (value (K + 1) (l.drop q)) e ∧ Below w.heap.size w w' := by
 have hs := txt_size l
 have hA := World.alloc_heap_new w (.cells #[.int .i64 0, .bool false, .bool false, .string ⟨#[]⟩, .int .i64 0, .string ⟨#[]⟩, .slice none 0 0, .slice none 0 0, .int .i64 0, .int .i64 0, .int .i64 0] 31)
 have bA : Below w.heap.size w (w.alloc (.cells #[.int .i64 0, .bool false, .bool false, .string ⟨#[]⟩, .int .i64 0, .string ⟨#[]⟩, .slice none 0 0, .slice none 0 0, .int .i64 0, .int .i64 0, .int .i64 0] 31)) := (Below.refl _ w).alloc (Nat.le_refl _) _
 have hlw : w.heap.size < (w.alloc (.cells #[.int .i64 0, .bool false, .bool false, .string ⟨#[]⟩, .int .i64 0, .string ⟨#[]⟩, .slice none 0 0, .slice none 0 0, .int .i64 0, .int .i64 0, .int .i64 0] 31)).heap.size := by simp
 have hb := fun (wx : World) (x : Int) => rbad_any (w := wx) (p := q) (e := x)
 simp only [badV] at hb
 have hdd : decide ((64 : Int) < d) = false := decide_eq_false (by omega)
 have hdd' : ¬ (64 : Int) < d := by omega
 have hval : value (K + 1) (l.drop q) = many (value K) (l.drop q) := by
   have hh := head_of 91 (by decide) hx
   rw [value_succ hh (by decide)]
   unfold read
   rw [hh]
   rfl
 have hcall := rmany_list (w := w.alloc (.cells #[.int .i64 0, .bool false, .bool false, .string ⟨#[]⟩, .int .i64 0, .string ⟨#[]⟩, .slice none 0 0, .slice none 0 0, .int .i64 0, .int .i64 0, .int .i64 0] 31)) (K := K) hl hq hx hd0 (by omega) hv
 rw [← hval] at hcall
 have g1 : ¬ (l.length : Int) ≤ (q : Int) := by omega
 have g2 : decide (l.length ≤ q) = false := decide_eq_false (by omega)
 have hix := idx hq
 rw [hx] at hix
 clear hv
 have HC := Lib.hid hcall
 have HA := Lib.hid hA
 have HBA := Lib.hid bA
 clear hval hcall hb hA bA
 go_enter Tryz.func22, Tryz.ntmps22
 go_wp2_with fail
 refine HC.out.mono ?_
 rintro e w2 ⟨hT, k2⟩
 obtain ⟨k0, b0, b1, dd, x0, tt, a1, n1, m1, a2, n2, m2, aa, pp, kk, rfl, -⟩ := id hT
 have hgot := (k2.block _ (lt_of_heap HA.out)).trans HA.out
 have hbel := HBA.out.trans (k2.mono HBA.out.size)
 have HT := Lib.hid hT
 clear k2 hT
 have h9 := set11 hgot (.int .i64 k0) (.bool b0) (.bool b1) (.string dd) (.int .i64 x0) (.string tt) (.slice a1 n1 m1) (.slice a2 n2 m2) (.int .i64 aa) (.int .i64 pp) (.int .i64 kk)
 have b9 := below11 hbel (Nat.le_refl _) (.int .i64 k0) (.bool b0) (.bool b1) (.string dd) (.int .i64 x0) (.string tt) (.slice a1 n1 m1) (.slice a2 n2 m2) (.int .i64 aa) (.int .i64 pp) (.int .i64 kk)
 obtain ⟨z0, z1, z2, z3, z4, z5, z6, z7, z8, z9, z10⟩ := eleven h9
 obtain ⟨y0, y1, y2, y3, y4, y5, y6, y7, y8, y9, y10⟩ := eleven hgot
 have qf := free_of hgot
 have HB9 := Lib.hid b9
 clear h9 b9
 go_wp2_with fail
 refine bodyPost_ret (v := .agg #[.int .i64 k0, .bool b0, .bool b1, .string dd, .int .i64 x0, .string tt, .slice a1 n1 m1, .slice a2 n2 m2, .int .i64 aa, .int .i64 pp, .int .i64 kk]) (by simp [results, Tryz.results22, go_sem, z0, z1, z2, z3, z4, z5, z6, z7, z8, z9, z10]) rfl ⟨HT.out.map fun u x h => holdF_set11 h hlw (Nat.le_of_lt hlw) (.int .i64 k0) (.bool b0) (.bool b1) (.string dd) (.int .i64 x0) (.string tt) (.slice a1 n1 m1) (.slice a2 n2 m2) (.int .i64 aa) (.int .i64 pp) (.int .i64 kk), HB9.out⟩
set_option maxRecDepth 100000 in
set_option maxHeartbeats 2000000 in
theorem rvalue_obj {w : World} {l : List UInt8} {q K : Nat} {d : Int} (hl : l.length < 100000) (hq : q < l.length) (hx : nb l q = 123) (hd : d ≤ 64) (hd0 : 0 ≤ d) (hv : ∀ (wx : World) (p : Nat), p ≤ l.length → Calls Tryz.prog 22 #[.string (txt l), .int .i64 p, .int .i64 (d + 1)] wx fun e w' => TellE (HoldF wx.heap.size w') l.length (value K (l.drop p)) e ∧ Below wx.heap.size wx w') :
   Calls Tryz.prog 22 #[.string (txt l), .int .i64 q, .int .i64 d] w fun e w' => TellE (HoldF w.heap.size w') l.length (value (K + 1) (l.drop q)) e ∧ Below w.heap.size w w' := by
 have hs := txt_size l
 have hA := World.alloc_heap_new w (.cells #[.int .i64 0, .bool false, .bool false, .string ⟨#[]⟩, .int .i64 0, .string ⟨#[]⟩, .slice none 0 0, .slice none 0 0, .int .i64 0, .int .i64 0, .int .i64 0] 31)
 have bA : Below w.heap.size w (w.alloc (.cells #[.int .i64 0, .bool false, .bool false, .string ⟨#[]⟩, .int .i64 0, .string ⟨#[]⟩, .slice none 0 0, .slice none 0 0, .int .i64 0, .int .i64 0, .int .i64 0] 31)) := (Below.refl _ w).alloc (Nat.le_refl _) _
 have hlw : w.heap.size < (w.alloc (.cells #[.int .i64 0, .bool false, .bool false, .string ⟨#[]⟩, .int .i64 0, .string ⟨#[]⟩, .slice none 0 0, .slice none 0 0, .int .i64 0, .int .i64 0, .int .i64 0] 31)).heap.size := by simp
 have hb := fun (wx : World) (x : Int) => rbad_any (w := wx) (p := q) (e := x)
 simp only [badV] at hb
 have hdd : decide ((64 : Int) < d) = false := decide_eq_false (by omega)
 have hdd' : ¬ (64 : Int) < d := by omega
 have hval : value (K + 1) (l.drop q) = many (value K) (l.drop q) := by
   have hh := head_of 123 (by decide) hx
   rw [value_succ hh (by decide)]
   unfold read
   rw [hh]
   rfl
 have hcall := rmany_obj (w := w.alloc (.cells #[.int .i64 0, .bool false, .bool false, .string ⟨#[]⟩, .int .i64 0, .string ⟨#[]⟩, .slice none 0 0, .slice none 0 0, .int .i64 0, .int .i64 0, .int .i64 0] 31)) (K := K) hl hq hx hd0 (by omega) hv
 rw [← hval] at hcall
 have g1 : ¬ (l.length : Int) ≤ (q : Int) := by omega
 have g2 : decide (l.length ≤ q) = false := decide_eq_false (by omega)
 have hix := idx hq
 rw [hx] at hix
 clear hv
 have HC := Lib.hid hcall
 have HA := Lib.hid hA
 have HBA := Lib.hid bA
 clear hval hcall hb hA bA
 go_enter Tryz.func22, Tryz.ntmps22
 go_wp2_with fail
 refine HC.out.mono ?_
 rintro e w2 ⟨hT, k2⟩
 obtain ⟨k0, b0, b1, dd, x0, tt, a1, n1, m1, a2, n2, m2, aa, pp, kk, rfl, -⟩ := id hT
 have hgot := (k2.block _ (lt_of_heap HA.out)).trans HA.out
 have hbel := HBA.out.trans (k2.mono HBA.out.size)
 have HT := Lib.hid hT
 clear k2 hT
 have h9 := set11 hgot (.int .i64 k0) (.bool b0) (.bool b1) (.string dd) (.int .i64 x0) (.string tt) (.slice a1 n1 m1) (.slice a2 n2 m2) (.int .i64 aa) (.int .i64 pp) (.int .i64 kk)
 have b9 := below11 hbel (Nat.le_refl _) (.int .i64 k0) (.bool b0) (.bool b1) (.string dd) (.int .i64 x0) (.string tt) (.slice a1 n1 m1) (.slice a2 n2 m2) (.int .i64 aa) (.int .i64 pp) (.int .i64 kk)
 obtain ⟨z0, z1, z2, z3, z4, z5, z6, z7, z8, z9, z10⟩ := eleven h9
 obtain ⟨y0, y1, y2, y3, y4, y5, y6, y7, y8, y9, y10⟩ := eleven hgot
 have qf := free_of hgot
 have HB9 := Lib.hid b9
 clear h9 b9
 go_wp2_with fail
 refine bodyPost_ret (v := .agg #[.int .i64 k0, .bool b0, .bool b1, .string dd, .int .i64 x0, .string tt, .slice a1 n1 m1, .slice a2 n2 m2, .int .i64 aa, .int .i64 pp, .int .i64 kk]) (by simp [results, Tryz.results22, go_sem, z0, z1, z2, z3, z4, z5, z6, z7, z8, z9, z10]) rfl ⟨HT.out.map fun u x h => holdF_set11 h hlw (Nat.le_of_lt hlw) (.int .i64 k0) (.bool b0) (.bool b1) (.string dd) (.int .i64 x0) (.string tt) (.slice a1 n1 m1) (.slice a2 n2 m2) (.int .i64 aa) (.int .i64 pp) (.int .i64 kk), HB9.out⟩
set_option maxRecDepth 100000 in
set_option maxHeartbeats 2000000 in
theorem rvalue_text {w : World} {l : List UInt8} {q K : Nat} {d : Int} (hl : l.length < 100000) (hq : q < l.length) (hx : nb l q = 34) (hd : d ≤ 64) :
   Calls Tryz.prog 22 #[.string (txt l), .int .i64 q, .int .i64 d] w fun e w' => TellE (HoldF w.heap.size w') l.length (value (K + 1) (l.drop q)) e ∧ Below w.heap.size w w' := by
 have hs := txt_size l
 have hA := World.alloc_heap_new w (.cells #[.int .i64 0, .bool false, .bool false, .string ⟨#[]⟩, .int .i64 0, .string ⟨#[]⟩, .slice none 0 0, .slice none 0 0, .int .i64 0, .int .i64 0, .int .i64 0] 31)
 have bA : Below w.heap.size w (w.alloc (.cells #[.int .i64 0, .bool false, .bool false, .string ⟨#[]⟩, .int .i64 0, .string ⟨#[]⟩, .slice none 0 0, .slice none 0 0, .int .i64 0, .int .i64 0, .int .i64 0] 31)) := (Below.refl _ w).alloc (Nat.le_refl _) _
 have hlw : w.heap.size < (w.alloc (.cells #[.int .i64 0, .bool false, .bool false, .string ⟨#[]⟩, .int .i64 0, .string ⟨#[]⟩, .slice none 0 0, .slice none 0 0, .int .i64 0, .int .i64 0, .int .i64 0] 31)).heap.size := by simp
 have hb := fun (wx : World) (x : Int) => rbad_any (w := wx) (p := q) (e := x)
 simp only [badV] at hb
 have hdd : decide ((64 : Int) < d) = false := decide_eq_false (by omega)
 have hdd' : ¬ (64 : Int) < d := by omega
 have hval : value (K + 1) (l.drop q) = text (l.drop q) := by
   have hh := head_of 34 (by decide) hx
   rw [value_succ hh (by decide)]
   unfold read
   rw [hh]
   rfl
 have g1 : ¬ (l.length : Int) ≤ (q : Int) := by omega
 have g2 : decide (l.length ≤ q) = false := decide_eq_false (by omega)
 have hix := idx hq
 rw [hx] at hix
 have hsl := slL (l := l) (z := (q : Int)) (k := q) rfl (by omega)
 have hsc := fun (wx : World) => Quo.rscan_any (w := wx) (l := l.drop q) (by rw [List.length_drop]; omega)
 have hsz : (Quo.scan (l.drop q)).e = 0 → (Quo.scan (l.drop q)).size ≤ l.length - q := fun h => by
   have := (scan_ok h).2.2
   rwa [List.length_drop] at this
 unfold Quo.partV at hsc
 unfold text at hval
 rw [List.drop_drop] at hval
 generalize value (K + 1) (l.drop q) = gg at *
 generalize hP : Quo.scan (l.drop q) = P at *
 generalize hdt : l.drop q = t at *
 obtain ⟨ps, pn, pe⟩ := P
 dsimp only at hval hsc hsz
 have HV := Lib.hid hval
 have HSZ := Lib.hid hsz
 have HSC := Lib.hid (hsc (w.alloc (.cells #[.int .i64 0, .bool false, .bool false, .string ⟨#[]⟩, .int .i64 0, .string ⟨#[]⟩, .slice none 0 0, .slice none 0 0, .int .i64 0, .int .i64 0, .int .i64 0] 31)))
 have HA := Lib.hid hA
 have HBA := Lib.hid bA
 have HBD := Lib.hid hb
 clear hval hsz hsc hA bA hb hP hdt
 go_enter Tryz.func22, Tryz.ntmps22
 go_wp2_with fail
 refine HSC.out.mono ?_
 rintro e w2 ⟨rfl, k2⟩
 have hN := World.alloc_heap_new w2 (.cells #[.string (txt ps), .int .i64 pn, .int .i64 pe] 77)
 obtain ⟨W, hW⟩ : ∃ W, w2.alloc (.cells #[.string (txt ps), .int .i64 pn, .int .i64 pe] 77) = W := ⟨_, rfl⟩
 have kW : Below w2.heap.size w2 W := by rw [← hW]; exact (Below.refl _ w2).alloc (Nat.le_refl _) _
 rw [hW] at hN
 have hg2 := (kW.block _ (Nat.lt_of_lt_of_le (lt_of_heap HA.out) k2.size)).trans ((k2.block _ (lt_of_heap HA.out)).trans HA.out)
 have hb2 := (HBA.out.trans (k2.mono HBA.out.size)).trans (kW.mono (Nat.le_trans HBA.out.size k2.size))
 have HN := Lib.hid hN
 have HG2 := Lib.hid hg2
 have HB2 := Lib.hid hb2
 have HW := Lib.hid hW
 have hlt2 : w.heap.size < w2.heap.size := Nat.lt_of_lt_of_le hlw k2.size
 clear hN hg2 hb2 hW kW k2
 go_upto_region 20 with fail
 rw [HW.out]
 clear HW
 obtain ⟨n0, n1, n2⟩ := three HN.out
 have hlN := lt_of_heap HN.out
 by_cases he : pe = 0
 · subst he
   have hval := HV.out
   rw [if_neg (by simp)] at hval
   have hpn := HSZ.out rfl
   have hqp : IntKind.i64.wrap ((q : Int) + (pn : Int)) = (q : Int) + (pn : Int) := by simp only [IntKind.wrap, IntKind.signed, IntKind.bits]; simp; omega
   have HF := Lib.hid fun (wx : World) (p : Int) => TellE.good (C := HoldF w.heap.size wx) (n := l.length) (a := (q : Int) + (pn : Int)) (p := p) hval (by rw [List.length_drop]; omega) (hold_flat 4 false Num.zero ps)
   have hgot := HG2.out
   have hbel := HB2.out
   have hlg := lt_of_heap hgot
   clear hval hpn
   have h9 := set11 hgot (.int .i64 4) (.bool false) (.bool false) (.string ⟨#[]⟩) (.int .i64 0) (.string (txt ps)) (.slice none 0 0) (.slice none 0 0) (.int .i64 ((q : Int) + (pn : Int))) (.int .i64 0) (.int .i64 0)
   have b9 := below11 hbel (Nat.le_refl _) (.int .i64 4) (.bool false) (.bool false) (.string ⟨#[]⟩) (.int .i64 0) (.string (txt ps)) (.slice none 0 0) (.slice none 0 0) (.int .i64 ((q : Int) + (pn : Int))) (.int .i64 0) (.int .i64 0)
   obtain ⟨z0, z1, z2, z3, z4, z5, z6, z7, z8, z9, z10⟩ := eleven h9
   obtain ⟨y0, y1, y2, y3, y4, y5, y6, y7, y8, y9, y10⟩ := eleven hgot
   have qf := free_of hgot
   have HB9 := Lib.hid b9
   clear h9 b9
   go_wp2_with fail
   refine bodyPost_ret (v := .agg #[.int .i64 4, .bool false, .bool false, .string ⟨#[]⟩, .int .i64 0, .string (txt ps), .slice none 0 0, .slice none 0 0, .int .i64 ((q : Int) + (pn : Int)), .int .i64 0, .int .i64 0]) (by simp [results, Tryz.results22, go_sem, z0, z1, z2, z3, z4, z5, z6, z7, z8, z9, z10]) rfl ⟨HF.out _ _, HB9.out⟩
 · have he1 : (((pe : Nat) : Int) != 0) = true := by simp; omega
   have hval := HV.out
   rw [if_pos he] at hval
   have HF := Lib.hid fun (C : Value → Val → Prop) => TellE.bad2 (C := C) (n := l.length) hval (show ((pe : Nat) : Int) ≠ 0 by omega) 0 false false ⟨#[]⟩ 0 ⟨#[]⟩ none 0 0 none 0 0 0 q
   have HBP := Lib.hid (HBD.out W pe)
   clear hval he
   go_wp2_with fail
   refine HBP.out.mono ?_
   rintro e w3 ⟨rfl, k3⟩
   have hgot := (k3.block _ (lt_of_heap HG2.out)).trans HG2.out
   have hbel := HB2.out.trans (k3.mono HB2.out.size)
   clear k3 n0 n1 n2
   have h9 := set11 hgot (.int .i64 0) (.bool false) (.bool false) (.string ⟨#[]⟩) (.int .i64 0) (.string ⟨#[]⟩) (.slice none 0 0) (.slice none 0 0) (.int .i64 0) (.int .i64 q) (.int .i64 pe)
   have b9 := below11 hbel (Nat.le_refl _) (.int .i64 0) (.bool false) (.bool false) (.string ⟨#[]⟩) (.int .i64 0) (.string ⟨#[]⟩) (.slice none 0 0) (.slice none 0 0) (.int .i64 0) (.int .i64 q) (.int .i64 pe)
   obtain ⟨z0, z1, z2, z3, z4, z5, z6, z7, z8, z9, z10⟩ := eleven h9
   obtain ⟨y0, y1, y2, y3, y4, y5, y6, y7, y8, y9, y10⟩ := eleven hgot
   have qf := free_of hgot
   have HB9 := Lib.hid b9
   clear h9 b9
   go_wp2_with fail
   refine bodyPost_ret (v := .agg #[.int .i64 0, .bool false, .bool false, .string ⟨#[]⟩, .int .i64 0, .string ⟨#[]⟩, .slice none 0 0, .slice none 0 0, .int .i64 0, .int .i64 q, .int .i64 pe]) (by simp [results, Tryz.results22, go_sem, z0, z1, z2, z3, z4, z5, z6, z7, z8, z9, z10]) rfl ⟨HF.out _, HB9.out⟩
theorem valR_zero {l : List UInt8} (hl : l.length < 100000) : ValR l 0 := fun w q hq => by
 show Calls Tryz.prog 22 #[.string (txt l), .int .i64 q, .int .i64 65] w _
 by_cases h0 : q = l.length
 · exact rvalue_end hl (by omega)
 have hlt : q < l.length := by omega
 have hd : (64 : Int) < 65 := by decide
 by_cases h1 : nb l q = 110
 · exact rvalue_deepn hl hlt h1 hd
 by_cases h2 : nb l q = 116
 · exact rvalue_deept hl hlt h2 hd
 by_cases h3 : nb l q = 102
 · exact rvalue_deepf hl hlt h3 hd
 by_cases h4 : nb l q = 34
 · exact rvalue_deepq hl hlt h4 hd
 by_cases h5 : nb l q = 91
 · exact rvalue_deepl hl hlt h5 hd
 by_cases h6 : nb l q = 123
 · exact rvalue_deepo hl hlt h6 hd
 by_cases h7 : nb l q = 45
 · exact rvalue_deepm hl hlt h7 hd
 by_cases h8 : nb l q < 48
 · exact rvalue_formlo hl hlt h8 h7 h1 h2 h3 h4 h5 h6
 by_cases h9 : 57 < nb l q
 · exact rvalue_formhi hl hlt h9 h7 h1 h2 h3 h4 h5 h6
 exact rvalue_deepd hl hlt (by omega) (by omega) hd
theorem valR_succ {l : List UInt8} (hl : l.length < 100000) {K : Nat} (hK : K < 64) (hv : ValR l K) : ValR l (K + 1) := fun w q hq => by
 have hd : (65 : Int) - ((K + 1 : Nat) : Int) ≤ 64 := by omega
 have hd0 : (0 : Int) ≤ (65 : Int) - ((K + 1 : Nat) : Int) := by omega
 have hv' : ∀ (wx : World) (p : Nat), p ≤ l.length → Calls Tryz.prog 22 #[.string (txt l), .int .i64 p, .int .i64 ((65 : Int) - ((K + 1 : Nat) : Int) + 1)] wx fun e w' => TellE (HoldF wx.heap.size w') l.length (value K (l.drop p)) e ∧ Below wx.heap.size wx w' := fun wx p hp => by
   rw [show (65 : Int) - ((K + 1 : Nat) : Int) + 1 = 65 - (K : Int) by omega]
   exact hv wx p hp
 by_cases h0 : q = l.length
 · exact rvalue_end hl (by omega)
 have hlt : q < l.length := by omega
 by_cases h1 : nb l q = 110
 · exact rvalue_null hl hlt h1 hd
 by_cases h2 : nb l q = 116
 · exact rvalue_true hl hlt h2 hd
 by_cases h3 : nb l q = 102
 · exact rvalue_false hl hlt h3 hd
 by_cases h4 : nb l q = 34
 · exact rvalue_text hl hlt h4 hd
 by_cases h5 : nb l q = 91
 · exact rvalue_list hl hlt h5 hd hd0 hv'
 by_cases h6 : nb l q = 123
 · exact rvalue_obj hl hlt h6 hd hd0 hv'
 by_cases h7 : nb l q = 45
 · exact rvalue_min hl hlt h7 hd
 by_cases h8 : nb l q < 48
 · exact rvalue_formlo hl hlt h8 h7 h1 h2 h3 h4 h5 h6
 by_cases h9 : 57 < nb l q
 · exact rvalue_formhi hl hlt h9 h7 h1 h2 h3 h4 h5 h6
 exact rvalue_num hl hlt (by omega) (by omega) hd
theorem valR_all {l : List UInt8} (hl : l.length < 100000) : ∀ K : Nat, K ≤ 64 → ValR l K
 | 0, _ => valR_zero hl
 | K + 1, h => valR_succ hl (by omega) (valR_all hl K (by omega))
end Go.Proofs.YtlfbnfphocpgeaaGreatDoor.Jdec
