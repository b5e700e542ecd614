/- What the laws' rows of layer 9 are given of the tables num.next and utf.kinds. Nothing is claimed here. -/
import Derived.Test.YtehpjidajmoggaaDoorUtfLaid
import Derived.Test.YtehpjidajmoggaaDoorJdecParse
import Derived.MakeChecks
import Derived.LaidMore
namespace Go.Proofs.YtehpjidajmoggaaDoor.Jdec
open Go.ChangeShapes Go.WideShapes Go.ChangeAt Go.RowKit Kit

theorem gNext : Tryd.prog.globalNamed "tabularium/num.next" = some 0 := by kernel_rfl
theorem tNext : (Tryd.prog.globals[0]?).map (·.type) = some 67 := by kernel_rfl
theorem plainNext : plainT Tryd.prog 5 67 = true := by kernel_rfl
theorem readsNext (W : World) : DataW.trod (fun _ => ()) Tryd.prog W 0 (fun _ => true) false 5 67 Num.tcells.toList = some (Rows.laid_tabularium_num_next, []) := by kernel_rfl
/-- One listed variable. -/
theorem listed {P : Program} {w : World} : ∀ {l : List (String × DataW Unit)} {ps : List MemPlace}, DataW.LaidVars P w l ps → ∀ {n : String} {d : DataW Unit}, (n, d) ∈ l →
    ∃ g t cs f p, P.globalNamed n = some g ∧ (P.globals[g]?).map (·.type) = some t ∧ w.var? P n = some cs ∧ DataW.trod (fun _ => ()) P w 0 (fun _ => true) false f t cs.toList = some (d, p)
  | [], _, _, _, _, hm => by cases hm
  | (n', d') :: r, ps, h, n, d, hm => by
    obtain ⟨g, t, cs, fuel, p, q, h1, h2, h3, h4, h5, _⟩ := h
    rcases List.mem_cons.1 hm with e | e
    · cases e
      exact ⟨g, t, cs, fuel, p, h1, h2, h3, h4⟩
    · exact listed h5 e
theorem laid_ok {W : World} {laid : List (String × DataW Unit)} (h : laidMetH Tryd.prog laid W) (hp : (laid.all fun x => x.2.handleName?.isNone) = true)
    (h1 : ("tabularium/num.next", Rows.laid_tabularium_num_next) ∈ laid) (h2 : ("tabularium/utf.kinds", Rows.laid_tabularium_utf_kinds) ∈ laid) : Ok W := by
  rw [MakeChecks.laidMetH_plain _ _ _ hp] at h
  obtain ⟨ps, hv, _⟩ := h
  constructor
  · obtain ⟨g, t, cs, f, p, hg, ht, hvr, hd⟩ := listed hv h2
    obtain rfl := Option.some.inj (Utf.gKinds.symm.trans hg)
    obtain rfl := Option.some.inj (Utf.tKinds.symm.trans ht)
    have e := trod_inj 5 129 _ _ _ _ _ _ _ Utf.plainKinds hd (Utf.readsKinds W)
    unfold World.var? at hvr
    rw [Utf.gKinds] at hvr
    simp only [Option.bind_some] at hvr
    split at hvr
    · rename_i c ty fr hh
      have : c = cs := Option.some.inj hvr
      subst this
      have : c = Utf.kcells := by
        rw [← Array.toArray_toList (xs := c), e]
      subst this
      exact ⟨_, _, hh⟩
    · cases hvr
  · obtain ⟨g, t, cs, f, p, hg, ht, hvr, hd⟩ := listed hv h1
    obtain rfl := Option.some.inj (gNext.symm.trans hg)
    obtain rfl := Option.some.inj (tNext.symm.trans ht)
    have e := trod_inj 5 67 _ _ _ _ _ _ _ plainNext hd (readsNext W)
    unfold World.var? at hvr
    rw [gNext] at hvr
    simp only [Option.bind_some] at hvr
    split at hvr
    · rename_i c ty fr hh
      have : c = cs := Option.some.inj hvr
      subst this
      have : c = Num.tcells := by
        rw [← Array.toArray_toList (xs := c), e]
      subst this
      exact ⟨_, _, hh⟩
    · cases hvr
end Go.Proofs.YtehpjidajmoggaaDoor.Jdec
