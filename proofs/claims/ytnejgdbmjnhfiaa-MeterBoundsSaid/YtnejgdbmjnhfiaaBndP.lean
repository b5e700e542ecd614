/- MeterBounds answers true for every limit and every list of calls, and changes nothing that was there before the call: no condition. -/
import Derived.Test.YtnejgdbmjnhfiaaOps
import Derived.Test.YtnejgdbmjnhfiaaBnd
namespace Go.Proofs.Ytnejgdbmjnhfiaa.Mtr
open Go.ChangeShapes Go.WideShapes Go.ChangeAt Go.RowKit Kit

theorem bounds_any (limit : Int) (ad : Option Addr) (len cap : Nat) (w : World) (hlim : limit ≤ 9223372036854775807) (hO : len = 0 ∨ ∃ b off, ad = some ⟨b, off, none⟩ ∧ Ops w b off len) :
    Calls Try.prog 4 #[.int .i64 limit, .slice ad len cap] w fun e w' => e = .returned (.bool true) ∧ Below w.heap.size w w' := by
  rcases hO with rfl | ⟨b, off, rfl, hO⟩
  · exact bounds_zero limit _ ad cap w rfl
  · by_cases h1 : 100 < len
    · exact bounds_long limit _ len cap w h1
    · by_cases h0 : len = 0
      · subst h0
        exact bounds_zero limit _ _ cap w rfl
      · by_cases hneg : limit < 0
        · exact bounds_neg limit b off len cap w hneg (by omega) (by omega) hO
        · exact bounds_pos limit b off len cap w (by omega) hlim (by omega) (by omega) hO

set_option maxRecDepth 100000 in
theorem bounds_lifted (os : Os) (started : os.Started) (H : Type) (enc : TypeId × Value → H) :
    ReturnsInHanded {} Try.checked os 4 .any (Rows.meterBoundsSpec.pre6 enc Try.prog Try.f4 Rows.meterBoundsRow.domain false) (Rows.meterBoundsSpec.post enc Try.prog Try.f4 false true false false) := by
  refine returnsInHanded_of_change (C := Try.checked) own started (by kernel_rfl) Try.func4
    (ChangeSpec.witness6 (enc := enc) (C := Try.checked) false ⟨#[], #[.int .i64 0, .slice none 0 0], []⟩ 8 (by kernel_rfl) (by kernel_rfl) (by kernel_rfl) (by kernel_rfl)) ?_
  intro W base args ds gs before hval0 hW hcnd _
  have hval : ∀ (j : Nat) t v, Try.f4.params[j]? = some t → args[j]? = some v → Value.okWide Try.prog W .any base t v := hval0
  have hW' := hW
  obtain ⟨p, q, hA0, hV, rfl, hfz, hnd⟩ := hW
  have hA : DataW.TrodAll enc Try.prog W 0 (fun _ => true) true Try.f4.params.toList args.toList ds p := hA0
  rw [Try.params4] at hA hval
  obtain ⟨v0, vs0, d0, ds0, p0, q0, hargs, rfl, rfl, h0, r0⟩ := trodAll_cons hA
  obtain ⟨v1, vs1, d1, ds1, p1, q1, rfl, rfl, rfl, h1, r1⟩ := trodAll_cons r0
  obtain ⟨rfl, rfl, rfl⟩ := trodAll_nil r1
  obtain rfl : args = #[v0, v1] := by cases args; simp_all
  obtain ⟨rfl, rfl⟩ := trodVars_none hV
  obtain ⟨a0, rfl, rfl, rfl, w0⟩ := open_int Try.underlying2 (hval 0 2 v0 rfl rfl) h0
  obtain ⟨ad, len, cap, rfl⟩ := okWide_slice Try.underlying22 (hval 1 22 v1 rfl rfl)
  obtain ⟨fuel, hf⟩ := h1
  refine (bounds_any a0 ad len cap W (wf64 w0).2 (open_ops hf)).mono fun e W' ⟨he, hg⟩ => ?_
  subst he
  exact ⟨_, rfl, law_done (tb := 4) laid rfl rfl (by kernel_rfl) Try.underlying4 (by decide +kernel) hW' hg⟩

theorem bounds_holds : Rows.MeterBoundsSaid :=
  OpenClaim.holds_of_wide 4 Try.f4 rfl rfl rfl rfl rfl rfl rfl ⟨rfl, rfl, rfl, rfl, rfl⟩ rfl rfl rfl rfl rfl (by kernel_rfl) Try.func4 (by kernel_rfl)
    (of_decide_eq_true (by kernel_rfl)) (by unfold Func.isWrapper; first | (rw [if_pos (by decide +kernel)]; kernel_rfl) | (rw [if_neg (by decide +kernel)]; exact ⟨rfl, rfl⟩))
    (fun os started H enc _ => bounds_lifted os started H enc)
#print axioms bounds_holds
end Go.Proofs.Ytnejgdbmjnhfiaa.Mtr
