/- What the row of NumWholes is given besides: the two errors of strconv. Nothing is claimed here. -/
import Derived.Test.YtkhdahfppajdoaaGreatDoorNumLaid
import Derived.Test.YtkhdahfppajdoaaGreatDoorNumFnW
import Derived.Stop.LaidErr
import Derived.Stop.ErrReads
namespace Go.Proofs.YtkhdahfppajdoaaGreatDoor.Num
open Go.ChangeShapes Go.WideShapes Go.ChangeAt Go.RowKit Kit

theorem gSyn : Tryz.prog.globalNamed "strconv.ErrSyntax" = some 1 := by kernel_rfl
theorem tSyn : (Tryz.prog.globals[1]?).map (·.type) = some 35 := by kernel_rfl
theorem gRan : Tryz.prog.globalNamed "strconv.ErrRange" = some 2 := by kernel_rfl
theorem tRan : (Tryz.prog.globals[2]?).map (·.type) = some 35 := by kernel_rfl
theorem star : "*errors.errorString" = "*" ++ "errors.errorString" := by decide
theorem rowErr (u : TypeId) (h : Tryz.prog.typeName? 3 u = some "*errors.errorString") : u = 122 :=
  typeName_ptr_named (nm := "errors.errorString") (by rw [← star]; kernel_rfl) (by kernel_rfl) (by decide) u (by rw [← star]; exact h)
theorem laid_okW {W : World} {a b c d : String × DataW Unit} {r : List (String × DataW Unit)} (h : laidMetH Tryz.prog (a :: b :: c :: d :: ("strconv.ErrRange", Rows.laid_strconv_ErrRange) :: ("strconv.ErrSyntax", Rows.laid_strconv_ErrSyntax) :: r) W)
    (hp : ((a :: b :: c :: d :: ("strconv.ErrRange", Rows.laid_strconv_ErrRange) :: ("strconv.ErrSyntax", Rows.laid_strconv_ErrSyntax) :: r).all fun x => x.2.handleName?.isNone) = true)
    (h1 : ("tabularium/num.next", Rows.laid_tabularium_num_next) ∈ a :: b :: c :: d :: ("strconv.ErrRange", Rows.laid_strconv_ErrRange) :: ("strconv.ErrSyntax", Rows.laid_strconv_ErrSyntax) :: r)
    (h2 : ("internal/strconv.uint64pow10", Rows.laid_internal_strconv_uint64pow10) ∈ a :: b :: c :: d :: ("strconv.ErrRange", Rows.laid_strconv_ErrRange) :: ("strconv.ErrSyntax", Rows.laid_strconv_ErrSyntax) :: r) : OkW W := by
  have ho := laid_ok h hp h1 h2
  rw [MakeChecks.laidMetH_plain _ _ _ hp] at h
  have t4 := h.tail.tail.tail.tail
  have hs : (Tryz.prog.cellsOf 124) = 1 := by kernel_rfl
  have hst : (Tryz.prog.cellsOf 9) = 1 := by kernel_rfl
  obtain ⟨a1, s1, hv1, _⟩ := laid_sentinel t4 gRan tRan Tryz.underlying35 rowErr Tryz.underlying122 Tryz.underlying124 rfl rfl Tryz.underlying9 hs hst
  obtain ⟨a2, s2, hv2, _⟩ := laid_sentinel t4.tail gSyn tSyn Tryz.underlying35 rowErr Tryz.underlying122 Tryz.underlying124 rfl rfl Tryz.underlying9 hs hst
  exact ⟨ho, ⟨_, _, hv2⟩, ⟨_, _, hv1⟩⟩
end Go.Proofs.YtkhdahfppajdoaaGreatDoor.Num
