/- The reader of package quote as it landed: next, want, digit, number: each takes bytes from what is left, or throws an error. Nothing is claimed here. -/
import Derived.Test.YtehpjidajmoggaaGreatDoorQuoRead
import Derived.Test.YtehpjidajmoggaaGreatDoorQuoHex
import Derived.Test.YtehpjidajmoggaaGreatDoorTexts
import Derived.Test.YtehpjidajmoggaaGreatDoorKit
import Derived.WalkLawsBesides
import Derived.RangeFuncBox
import Derived.Lib.Hide
namespace Go.Proofs.YtehpjidajmoggaaGreatDoor.Quo
open Go.RowKit Kit Txt Utf

/-- The reader in block R has l left. -/
def Rdr (R : Nat) (l : List UInt8) (w : World) : Prop := w.heap[R]? = some (.cells #[.string (txt l)] 80 (0, 0))
def rp (R : Nat) : Value := .pointer (some ⟨R, 0, none⟩)
/-- What is thrown. -/
def thrown (k : Nat) : Ending := .panicked [{ v := .iface 29 (.int .i64 k), recovered := false }]
theorem Rdr.took {R : Nat} {l m : List UInt8} {w : World} (h : Rdr R l w) : Rdr R m (w.setCell ⟨R, 0, none⟩ (.string (txt m))) := set_of h 0 _
theorem Rdr.kept {R : Nat} {l : List UInt8} {w w' : World} {row : Option Nat} (h : Rdr R l w) (k : w.grownBy w' row) (hr : some R ≠ row) : Rdr R l w' := (k.block R (lt_of_heap h) hr).trans h
theorem Rdr.below {R : Nat} {l : List UInt8} {w w' : World} {B : Nat} (h : Rdr R l w) (k : Below B w w') (hr : R < B) : Rdr R l w' := (k.block R hr).trans h
theorem grownBy.trans {a b c : World} {row : Option Nat} (h : a.grownBy b row) (k : b.grownBy c row) : a.grownBy c row :=
  ⟨k.os.trans h.os, k.tape.trans h.tape, k.output.trans h.output, Nat.le_trans h.size k.size, fun i hi hr => (k.block i (Nat.lt_of_lt_of_le hi h.size) hr).trans (h.block i hi hr)⟩

theorem idx0 (c : UInt8) (r : List UInt8) (wx : World) : (Instr.index 9 (.string (txt (c :: r))) (.int .i64 0)).run Tryz.prog wx = .ok (.int .u8 (c.toNat : Int)) wx := by
  have h := idx (l := c :: r) (i := 0) (by simp) wx
  rwa [nb_get (by simp)] at h
theorem sl1 (c : UInt8) (r : List UInt8) (wx : World) : (Instr.slice 9 (.string (txt (c :: r))) (some (.int .i64 1)) none none).run Tryz.prog wx = .ok (.string (txt r)) wx := slL (l := c :: r) (k := 1) rfl (by simp) wx

set_option maxRecDepth 100000 in
set_option maxHeartbeats 1000000 in
theorem next_cons {w : World} {R : Nat} {c : UInt8} {r : List UInt8} (h : Rdr R (c :: r) w) :
    Calls Tryz.prog 73 #[rp R] w fun e w' => e = .returned (.int .u8 (c.toNat : Int)) ∧ Rdr R r w' ∧ w.grownBy w' (some R) := by
  have hc := cell_of h 0
  have hf := free_of h 0
  have he : (txt (c :: r)).toList.isEmpty = false := by unfold txt; rw [ByteArray.toList_mk]; rfl
  have hi := idx0 c r
  have hs := sl1 c r
  unfold rp
  have hw : Rdr R r (w.setCell ⟨R, 0, none⟩ (.string (txt r))) ∧ w.grownBy (w.setCell ⟨R, 0, none⟩ (.string (txt r))) (some R) := ⟨h.took, grownBy_setCell' _ _ _⟩
  have hW := Lib.hid hw
  clear hw h
  go_enter Tryz.func73, Tryz.ntmps73
  go_wp2_with fail
  go_ret
  exact ⟨rfl, hW.out⟩
set_option maxRecDepth 100000 in
set_option maxHeartbeats 1000000 in
theorem next_nil {w : World} {R : Nat} (h : Rdr R [] w) : Calls Tryz.prog 73 #[rp R] w fun e w' => e = thrown 2 ∧ w' = w := by
  have hc := cell_of h 0
  have he : (txt []).toList = [] := by unfold txt; rw [ByteArray.toList_mk]
  unfold rp thrown
  go_enter Tryz.func73, Tryz.ntmps73
  go_wp2_with fail
  exact ⟨rfl, rfl, rfl⟩

/-- What a method of the reader tells: a value, and what is left behind it; or it throws. -/
def Takes (R : Nat) (w : World) (k : Nat) (v : Value) (rest : List UInt8) (e : Ending) (w' : World) : Prop := w.grownBy w' (some R) ∧ ((k = 0 ∧ e = .returned v ∧ Rdr R rest w') ∨ (k ≠ 0 ∧ e = thrown k))
theorem Takes.mk {R : Nat} {w : World} {v : Value} {rest : List UInt8} {w' : World} (h : Rdr R rest w') (g : w.grownBy w' (some R)) : Takes R w 0 v rest (.returned v) w' := ⟨g, .inl ⟨rfl, rfl, h⟩⟩
theorem Takes.no {R : Nat} {w : World} {k : Nat} {v : Value} {rest : List UInt8} {w' : World} (h : k ≠ 0) (g : w.grownBy w' (some R)) : Takes R w k v rest (thrown k) w' := ⟨g, .inr ⟨h, rfl⟩⟩

/-- Whether a byte stands there. -/
def wantE (c : UInt8) (l : List UInt8) : Nat := match l with
  | [] => 2
  | d :: _ => if d = c then 0 else 3
set_option maxRecDepth 100000 in
set_option maxHeartbeats 1000000 in
theorem mwant_any {w : World} {R : Nat} {c : UInt8} {l : List UInt8} {x : Int} (h : Rdr R l w) (hx : x = (c.toNat : Int)) :
    Calls Tryz.prog 70 #[rp R, .int .u8 x] w fun e w' => Takes R w (wantE c l) (.tuple #[]) l.tail e w' := by
  cases l with
  | nil =>
    have hn := next_nil h
    unfold rp at *
    go_enter Tryz.func70, Tryz.ntmps70
    go_wp2_with fail
    refine hn.mono ?_
    rintro e w1 ⟨rfl, rfl⟩
    exact ⟨rfl, .no (Nat.succ_ne_zero 1) (World.grownBy.refl _ _)⟩
  | cons d r =>
    have hn := next_cons h
    unfold rp at *
    by_cases hd : d = c
    · have e1 : ((d.toNat : Int) != x) = false := by rw [hx, hd]; simp
      have e0 : wantE c (d :: r) = 0 := if_pos hd
      rw [e0]
      clear hd hx e0
      go_enter Tryz.func70, Tryz.ntmps70
      go_wp2_with fail
      refine hn.mono ?_
      rintro e w1 ⟨rfl, k1, k2⟩
      go_wp2_with fail
      go_end0
      exact .mk k1 k2
    · have e1 : ((d.toNat : Int) != x) = true := by
        rw [hx]
        simp
        intro e
        exact hd (UInt8.toNat_inj.1 (by omega))
      have e0 : wantE c (d :: r) = 3 := if_neg hd
      rw [e0]
      clear hd hx e0
      go_enter Tryz.func70, Tryz.ntmps70
      go_wp2_with fail
      refine hn.mono ?_
      rintro e w1 ⟨rfl, k1, k2⟩
      go_wp2_with fail
      exact ⟨rfl, .no (by decide) k2⟩

/-- A digit's value; the error. -/
def digE (l : List UInt8) : Nat := match l with
  | [] => 2
  | c :: _ => match hexV c with
    | none => 3
    | some _ => 0
def digV (l : List UInt8) : Nat := match l with
  | [] => 0
  | c :: _ => (hexV c).getD 0
set_option maxRecDepth 100000 in
set_option maxHeartbeats 1000000 in
theorem mdigit_any {w : World} {R : Nat} {l : List UInt8} (h : Rdr R l w) :
    Calls Tryz.prog 121 #[rp R] w fun e w' => Takes R w (digE l) (.int .i64 (digV l : Int)) l.tail e w' := by
  cases l with
  | nil =>
    have hn := next_nil h
    unfold rp at *
    go_enter Tryz.func121, Tryz.ntmps121
    go_wp2_with fail
    refine hn.mono ?_
    rintro e w1 ⟨rfl, rfl⟩
    exact ⟨rfl, .no (by decide) (World.grownBy.refl _ _)⟩
  | cons c r =>
    have hn := next_cons h
    unfold rp at *
    have hlt : c.toNat < 256 := c.toNat_lt
    have hc := hexI_cases c
    have hE : (hexV c = none ∧ hexI c = -1 ∧ digE (c :: r) = 3) ∨ (∃ d, hexV c = some d ∧ hexI c = d ∧ digE (c :: r) = 0 ∧ digV (c :: r) = d) := by
      cases hv : hexV c with
      | none => exact .inl ⟨rfl, hexI_none hv, by unfold digE; dsimp only; rw [hv]⟩
      | some d => exact .inr ⟨d, rfl, (hexI_some hv).1, by unfold digE; dsimp only; rw [hv], by unfold digV; dsimp only; rw [hv]; rfl⟩
    rw [List.tail_cons]
    generalize digE (c :: r) = ee at *
    generalize digV (c :: r) = dd at *
    generalize c.toNat = x at *
    have w1 : 48 ≤ x → IntKind.u8.wrap ((x : Int) - 48) = (x : Int) - 48 := fun h => by simp only [IntKind.wrap, IntKind.signed, IntKind.bits]; simp; omega
    have w2 : 97 ≤ x → IntKind.u8.wrap ((x : Int) - 97) = (x : Int) - 97 := fun h => by simp only [IntKind.wrap, IntKind.signed, IntKind.bits]; simp; omega
    have w3 : 65 ≤ x → IntKind.u8.wrap ((x : Int) - 65) = (x : Int) - 65 := fun h => by simp only [IntKind.wrap, IntKind.signed, IntKind.bits]; simp; omega
    rcases hc with ⟨h1, h2, h3⟩ | ⟨h1, h2, h3⟩ | ⟨h1, h2, h3⟩ | ⟨h1, h2, h3, h4⟩
    · rcases hE with ⟨_, k, _⟩ | ⟨d, -, k, rfl, rfl⟩
      · exfalso; omega
      have e : (dd : Int) = (x : Int) - 48 := by omega
      rw [e]
      have w1 := w1 h1
      have d1 : (48 : Int) ≤ (x : Int) := by omega
      have d2 : (x : Int) ≤ 57 := by omega
      clear h3 w2 w3 k e
      go_enter Tryz.func121, Tryz.ntmps121
      go_wp2_with fail
      refine hn.mono ?_
      rintro e w1 ⟨rfl, k1, k2⟩
      go_wp2_with fail
      go_ret
      exact .mk k1 k2
    · rcases hE with ⟨_, k, _⟩ | ⟨d, -, k, rfl, rfl⟩
      · exfalso; omega
      have e : (dd : Int) = (x : Int) - 97 + 10 := by omega
      rw [e]
      have w2 := w2 h1
      have d0 : decide ((x : Int) ≤ 57) = false := by simp; omega
      have d3 : (48 : Int) ≤ (x : Int) := by omega
      have d1 : (97 : Int) ≤ (x : Int) := by omega
      have d2 : (x : Int) ≤ 102 := by omega
      have w4 : IntKind.i64.wrap ((x : Int) - 97 + 10) = (x : Int) - 97 + 10 := by simp only [IntKind.wrap, IntKind.signed, IntKind.bits]; simp; omega
      clear h3 w1 w3 k e
      go_enter Tryz.func121, Tryz.ntmps121
      go_wp2_with fail
      refine hn.mono ?_
      rintro e w1 ⟨rfl, k1, k2⟩
      go_wp2_with fail
      go_ret
      exact .mk k1 k2
    · rcases hE with ⟨_, k, _⟩ | ⟨d, -, k, rfl, rfl⟩
      · exfalso; omega
      have e : (dd : Int) = (x : Int) - 65 + 10 := by omega
      rw [e]
      have w3 := w3 h1
      have d0 : decide ((x : Int) ≤ 57) = false := by simp; omega
      have d3 : (48 : Int) ≤ (x : Int) := by omega
      have d4 : decide ((97 : Int) ≤ (x : Int)) = false := by simp; omega
      have d1 : (65 : Int) ≤ (x : Int) := by omega
      have d2 : (x : Int) ≤ 70 := by omega
      have w4 : IntKind.i64.wrap ((x : Int) - 65 + 10) = (x : Int) - 65 + 10 := by simp only [IntKind.wrap, IntKind.signed, IntKind.bits]; simp; omega
      clear h3 w1 w2 k e
      go_enter Tryz.func121, Tryz.ntmps121
      go_wp2_with fail
      refine hn.mono ?_
      rintro e w1 ⟨rfl, k1, k2⟩
      go_wp2_with fail
      go_ret
      exact .mk k1 k2
    · rcases hE with ⟨-, -, rfl⟩ | ⟨d, -, k, -, -⟩
      case inr => exfalso; omega
      clear w1 w2 w3 h4
      by_cases a1 : x < 48
      · have d1 : decide ((48 : Int) ≤ (x : Int)) = false := by simp; omega
        have d2 : decide ((97 : Int) ≤ (x : Int)) = false := by simp; omega
        have d3 : decide ((65 : Int) ≤ (x : Int)) = false := by simp; omega
        go_enter Tryz.func121, Tryz.ntmps121
        go_wp2_with fail
        refine hn.mono ?_
        rintro e w1 ⟨rfl, k1, k2⟩
        go_wp2_with fail
        exact ⟨rfl, .no (by decide) k2⟩
      by_cases a2 : x < 65
      · have d1 : (48 : Int) ≤ (x : Int) := by omega
        have d4 : decide ((x : Int) ≤ 57) = false := by simp; omega
        have d2 : decide ((97 : Int) ≤ (x : Int)) = false := by simp; omega
        have d3 : decide ((65 : Int) ≤ (x : Int)) = false := by simp; omega
        go_enter Tryz.func121, Tryz.ntmps121
        go_wp2_with fail
        refine hn.mono ?_
        rintro e w1 ⟨rfl, k1, k2⟩
        go_wp2_with fail
        exact ⟨rfl, .no (by decide) k2⟩
      by_cases a3 : x < 97
      · have d1 : (48 : Int) ≤ (x : Int) := by omega
        have d4 : decide ((x : Int) ≤ 57) = false := by simp; omega
        have d2 : decide ((97 : Int) ≤ (x : Int)) = false := by simp; omega
        have d3 : (65 : Int) ≤ (x : Int) := by omega
        have d5 : decide ((x : Int) ≤ 70) = false := by simp; omega
        go_enter Tryz.func121, Tryz.ntmps121
        go_wp2_with fail
        refine hn.mono ?_
        rintro e w1 ⟨rfl, k1, k2⟩
        go_wp2_with fail
        exact ⟨rfl, .no (by decide) k2⟩
      · have d1 : (48 : Int) ≤ (x : Int) := by omega
        have d4 : decide ((x : Int) ≤ 57) = false := by simp; omega
        have d2 : (97 : Int) ≤ (x : Int) := by omega
        have d6 : decide ((x : Int) ≤ 102) = false := by simp; omega
        have d3 : (65 : Int) ≤ (x : Int) := by omega
        have d5 : decide ((x : Int) ≤ 70) = false := by simp; omega
        go_enter Tryz.func121, Tryz.ntmps121
        go_wp2_with fail
        refine hn.mono ?_
        rintro e w1 ⟨rfl, k1, k2⟩
        go_wp2_with fail
        exact ⟨rfl, .no (by decide) k2⟩
end Go.Proofs.YtehpjidajmoggaaGreatDoor.Quo
