/- What the laws' rows are given of the tables num.next and uint64pow10. Nothing is claimed here. -/
import Derived.Test.YtkhdahfppajdoaaGreatDoorLaid
import Derived.Test.YtkhdahfppajdoaaGreatDoorNumFn
import Derived.MakeChecks
import Derived.LaidMore
namespace Go.Proofs.YtkhdahfppajdoaaGreatDoor.Num
open Go.ChangeShapes Go.WideShapes Go.ChangeAt Go.RowKit Kit

theorem gNext : Tryz.prog.globalNamed "tabularium/num.next" = some 0 := by kernel_rfl
theorem tNext : (Tryz.prog.globals[0]?).map (·.type) = some 66 := by kernel_rfl
theorem plainNext : plainT Tryz.prog 5 66 = true := by kernel_rfl
theorem readsNext (W : World) : DataW.trod (fun _ => ()) Tryz.prog W 0 (fun _ => true) false 5 66 tcells.toList = some (Rows.laid_tabularium_num_next, []) := by kernel_rfl
def pcells : Array Value := (Lib.pow10Tab.map fun z => Value.int .u64 z).toArray
theorem gPow : Tryz.prog.globalNamed "internal/strconv.uint64pow10" = some 3 := by kernel_rfl
theorem tPow : (Tryz.prog.globals[3]?).map (·.type) = some 116 := by kernel_rfl
theorem plainPow : plainT Tryz.prog 5 116 = true := by kernel_rfl
theorem readsPow (W : World) : DataW.trod (fun _ => ()) Tryz.prog W 0 (fun _ => true) false 5 116 pcells.toList = some (Rows.laid_internal_strconv_uint64pow10, []) := by kernel_rfl

/-- One listed variable. -/
theorem listed {P : Program} {w : World} : ∀ {l : List (String × DataW Unit)} {ps : List MemPlace}, DataW.LaidVars P w l ps → ∀ {n : String} {d : DataW Unit}, (n, d) ∈ l →
    ∃ g t cs f p, P.globalNamed n = some g ∧ (P.globals[g]?).map (·.type) = some t ∧ w.var? P n = some cs ∧ DataW.trod (fun _ => ()) P w 0 (fun _ => true) false f t cs.toList = some (d, p)
  | [], _, _, _, _, hm => by cases hm
  | (n', d') :: r, ps, h, n, d, hm => by
    obtain ⟨g, t, cs, fuel, p, q, h1, h2, h3, h4, h5, _⟩ := h
    rcases List.mem_cons.1 hm with e | e
    · cases e
      exact ⟨g, t, cs, fuel, p, h1, h2, h3, h4⟩
    · exact listed h5 e
theorem laid_ok {W : World} {laid : List (String × DataW Unit)} (h : laidMetH Tryz.prog laid W) (hp : (laid.all fun x => x.2.handleName?.isNone) = true)
    (h1 : ("tabularium/num.next", Rows.laid_tabularium_num_next) ∈ laid) (h2 : ("internal/strconv.uint64pow10", Rows.laid_internal_strconv_uint64pow10) ∈ laid) : Ok W := by
  rw [MakeChecks.laidMetH_plain _ _ _ hp] at h
  obtain ⟨ps, hv, _⟩ := h
  constructor
  · obtain ⟨g, t, cs, f, p, hg, ht, hvr, hd⟩ := listed hv h1
    obtain rfl := Option.some.inj (gNext.symm.trans hg)
    obtain rfl := Option.some.inj (tNext.symm.trans ht)
    have e := trod_inj 5 66 _ _ _ _ _ _ _ plainNext hd (readsNext W)
    unfold World.var? at hvr
    rw [gNext] at hvr
    simp only [Option.bind_some] at hvr
    split at hvr
    · rename_i c ty fr hh
      have : c = cs := Option.some.inj hvr
      subst this
      have : c = tcells := by
        rw [← Array.toArray_toList (xs := c), e]
      subst this
      exact ⟨_, _, hh⟩
    · cases hvr
  · obtain ⟨g, t, cs, f, p, hg, ht, hvr, hd⟩ := listed hv h2
    obtain rfl := Option.some.inj (gPow.symm.trans hg)
    obtain rfl := Option.some.inj (tPow.symm.trans ht)
    have e := trod_inj 5 116 _ _ _ _ _ _ _ plainPow hd (readsPow W)
    show W.var? Tryz.prog "internal/strconv.uint64pow10" = some (Lib.pow10Tab.map fun z => Value.int .u64 z).toArray
    rw [hvr, ← Array.toArray_toList (xs := cs), e]
    rfl
end Go.Proofs.YtkhdahfppajdoaaGreatDoor.Num
