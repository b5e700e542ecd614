/- (XBld over Texts in the place of NumScan.) A strings.Builder of the call's own, told by the bytes that it holds; the library's contracts in these words. Nothing is claimed here. -/
import Derived.Test.YtehpjidajmoggaaGreatDoorKit
import Derived.Test.YtehpjidajmoggaaGreatDoorTexts
import Derived.Test.YtehpjidajmoggaaGreatDoorShelf
namespace Go.Proofs.YtehpjidajmoggaaGreatDoor.Bld
open Go.RowKit Kit Txt

/-- The builder in block b, all its blocks from B on, holds l. -/
def Bld (B b : Nat) (l : List UInt8) (w : World) : Prop := B ≤ w.heap.size ∧ Lib.IsBuilder 103 5 B b (Lib.byteCells l) w
theorem Bld.new (w : World) : Bld w.heap.size w.heap.size [] (w.alloc (.cells #[.pointer none, .slice none 0 0] 103)) :=
  ⟨by simp, Lib.fresh_isBuilder _ _ _⟩
theorem at_kept {T e : TypeId} {B b : Nat} {p : Value} {bs : List Value} {w w' : World} (h : Lib.BuilderAt T e B b p bs w) (k : Below w.heap.size w w') : Lib.BuilderAt T e B b p bs w' := by
  have hlt := h.lt
  obtain ⟨hB, v, hb, hown, hne⟩ := h
  refine ⟨hB, v, (k.block b hlt).trans hb, hown.kept (row := none) ⟨k.os, k.tape, k.output, k.size, fun i hi _ => k.block i hi⟩ ?_, hne⟩
  cases hv : v.ownBlock with
  | none => exact .inl rfl
  | some g => exact .inr (by simp)
theorem Bld.kept {B b : Nat} {l : List UInt8} {w w' : World} (h : Bld B b l w) (k : Below w.heap.size w w') : Bld B b l w' :=
  ⟨Nat.le_trans h.1 k.size, h.2.elim (fun h => .inl (at_kept h k)) (fun h => .inr (at_kept h k))⟩
/-- A step that turns one block that lies below the builder's. -/
theorem Bld.other {B b R : Nat} {l : List UInt8} {w w' : World} (h : Bld B b l w) (k : w.grownBy w' (some R)) (hR : R < B) : Bld B b l w' := by
  have one : ∀ p, Lib.BuilderAt 103 5 B b p (Lib.byteCells l) w → Lib.BuilderAt 103 5 B b p (Lib.byteCells l) w' := by
    intro p h
    have hlt := h.lt
    obtain ⟨hB, v, hb, hown, hne⟩ := h
    refine ⟨hB, v, (k.block b hlt (fun e => by cases e; omega)).trans hb, hown.kept k ?_, hne⟩
    rcases hown.2 with ⟨rfl, _⟩ | ⟨g, cap, cur, rfl, hg, _⟩
    · exact .inl rfl
    · refine .inr fun e => ?_
      have e' : g = R := by simpa [Value.ownBlock] using e
      omega
  exact ⟨Nat.le_trans h.1 k.size, h.2.elim (fun h => .inl (one _ h)) (fun h => .inr (one _ h))⟩
theorem Bld.lt {B b : Nat} {l : List UInt8} {w : World} (h : Bld B b l w) : B ≤ b ∧ b < w.heap.size := h.2.elim (fun h => ⟨h.1, h.lt⟩) (fun h => ⟨h.1, h.lt⟩)

theorem cells_app (l m : List UInt8) : Lib.byteCells l ++ Lib.byteCells m = Lib.byteCells (l ++ m) := by simp [Lib.byteCells]
theorem str_any {B b : Nat} {l m : List UInt8} {w : World} (h : Bld B b l w) (hl : l.length < 1000000) (hm : m.length < 1000000) :
    Calls Tryz.prog 71 #[.pointer (some ⟨b, 0, none⟩), .string (txt m)] w fun e w' => e = .returned (.tuple #[.int .i64 (m.length : Int), .nilIface]) ∧ Bld B b (l ++ m) w' ∧ Below B w w' := by
  refine (Tryz.Builder_WriteString B b (Lib.byteCells l) (txt m) w h.2 (by rw [Lib.byteCells_length, txt_size]; omega) h.1).mono ?_
  rintro e w' ⟨he, hb, k⟩
  rw [txt_size] at he
  refine ⟨he, ⟨Nat.le_trans h.1 k.size, .inr ?_⟩, k⟩
  rw [← cells_app]
  exact hb
theorem string_any {B b : Nat} {l : List UInt8} {w : World} (h : Bld B b l w) :
    Calls Tryz.prog 74 #[.pointer (some ⟨b, 0, none⟩)] w fun e w' => e = .returned (.string (txt l)) ∧ Below B w w' := Tryz.Builder_String_any B b l w h.2 h.1
end Go.Proofs.YtehpjidajmoggaaGreatDoor.Bld
