/- What the laws' rows are given of the table utf.kinds. Nothing is claimed here. -/
import Derived.Test.YtehpjidajmoggaaGreatDoorLaid
import Derived.Test.YtehpjidajmoggaaGreatDoorUtfKind
import Derived.MakeChecks
import Derived.LaidMore
namespace Go.Proofs.YtehpjidajmoggaaGreatDoor.Utf
open Go.ChangeShapes Go.WideShapes Go.ChangeAt Go.RowKit Kit

theorem gKinds : Tryz.prog.globalNamed "tabularium/utf.kinds" = some 4 := by kernel_rfl
theorem tKinds : (Tryz.prog.globals[4]?).map (·.type) = some 150 := by kernel_rfl
theorem plainKinds : plainT Tryz.prog 5 150 = true := by kernel_rfl
theorem readsKinds (W : World) : DataW.trod (fun _ => ()) Tryz.prog W 0 (fun _ => true) false 5 150 kcells.toList = some (Rows.laid_tabularium_utf_kinds, []) := by kernel_rfl

theorem laid_of {W : World} (h : laidMetH Tryz.prog [("tabularium/utf.kinds", Rows.laid_tabularium_utf_kinds)] W) : Laid W := by
  rw [MakeChecks.laidMetH_plain _ _ _ (by kernel_rfl)] at h
  obtain ⟨ps, ⟨g, t, cs, f, p, q, hg, ht, hv, hd, _⟩, _⟩ := h
  obtain rfl := Option.some.inj (gKinds.symm.trans hg)
  obtain rfl := Option.some.inj (tKinds.symm.trans ht)
  have e := trod_inj 5 150 _ _ _ _ _ _ _ plainKinds hd (readsKinds W)
  unfold World.var? at hv
  rw [gKinds] at hv
  simp only [Option.bind_some] at hv
  split at hv
  · rename_i c ty fr hh
    have : c = cs := Option.some.inj hv
    subst this
    have : c = kcells := by
      rw [← Array.toArray_toList (xs := c), e]
    subst this
    exact ⟨_, _, hh⟩
  · cases hv
end Go.Proofs.YtehpjidajmoggaaGreatDoor.Utf
