/- The walk of VarintAll, over the contracts of package varint. Nothing is claimed here. -/
import Derived.Test.YtgckfndjbhjjoaaVarTold
import Derived.Test.YtgckfndjbhjjoaaVarLawA
namespace Go.Proofs.Ytgckfndjbhjjoaa.Var
open Go.RowKit Kit Byt

theorem told_us {w : World} {a : Option Addr} {len c : Nat} {L : List Nat} {most : Nat} (hlen : L.length = len) (hx : Bs w (.slice a len c) L) (hs : len < 1000000) :
    Calls Try.prog 16 #[.slice a len c, .int .i64 most] w fun e w' => ∃ a N c, e = .returned (.slice a N c) ∧ U64.Us w' (.slice a N c) ((all L).take most) ∧ Below w.heap.size w w' := by
  refine (told_any hlen hx hs).mono fun e w' => ?_
  rintro ⟨v, rfl, ho, hb⟩
  rw [Int.toNat_natCast] at ho
  have hu := U64.us_of_own (fun x h => all_lt _ L rfl x (List.mem_of_mem_take h)) ho
  obtain ⟨va, vc, rfl, _⟩ := U64.own_slice ho
  exact ⟨va, _, vc, rfl, hu, hb⟩

set_option maxRecDepth 100000 in
set_option maxHeartbeats 4000000 in
theorem all_law {w : World} {a b : Option Addr} {la lb ca cb : Nat} {A B : List Nat} {st : Int} (hla : A.length = la) (hx : Bs w (.slice a la ca) A) (hlb : B.length = lb) (hy : U64.Us w (.slice b lb cb) B) (h1 : 0 ≤ st) (h2 : st ≤ 255) :
    Calls Try.prog 5 #[.slice a la ca, .slice b lb cb, .int .u8 st] w fun e w' => e = .returned (.bool true) ∧ Below w.heap.size w w' := by
  have hw := wakes_any (w := w)
  obtain ⟨st, rfl⟩ := Int.eq_ofNat_of_zero_le h1
  by_cases hs : 300 < la ∨ 60 < lb
  · have hcase : decide ((300 : Int) < (la : Int)) = true ∨ (decide ((300 : Int) < (la : Int)) = false ∧ decide ((60 : Int) < (lb : Int)) = true) := by
      simp
      omega
    clear hs
    rcases hcase with h | ⟨h, h'⟩
    all_goals
      go_enter Try.func5, Try.ntmps5
      go_wp2_with fail
      refine hw.mono ?_
      rintro e w1 ⟨rfl, k1⟩
      go_wp2_with fail
      go_ret
      exact ⟨rfl, k1⟩
  · have hs1 : decide ((300 : Int) < (la : Int)) = false := by simp; omega
    have hs2 : decide ((60 : Int) < (lb : Int)) = false := by simp; omega
    have hal := all_len _ A rfl
    have hlt := all_lt _ A rfl
    have hfl : (B.flatMap put).length ≤ 10 * B.length := by
      have hb := hy.1
      clear hlb hy hs hs2
      induction B with
      | nil => simp
      | cons x B ih =>
        rw [List.flatMap_cons, List.length_append, List.length_cons]
        have := put_len (hb x (by simp))
        have := ih (fun y h => hb y (by simp [h]))
        omega
    have hput := all_puts B hy.1
    have H0 := Lib.hid hla
    have H1 := Lib.hid hlb
    have H2 := Lib.hid hput
    have H3 := Lib.hid hlt
    obtain ⟨fl, hf⟩ : ∃ fl, (B.flatMap put).length = fl := ⟨_, rfl⟩
    rw [hf] at hfl
    have H4 := Lib.hid hf
    have hB60 : B.length ≤ 60 := by omega
    have hA300 : A.length ≤ 300 := by omega
    clear hla hlb hput hlt hf
    go_enter Try.func5, Try.ntmps5
    go_wp2_with fail
    refine hw.mono ?_
    rintro e w1 ⟨rfl, k1⟩
    have hx1 := hx.below k1
    have hy1 := hy.below k1
    go_wp2_with fail
    refine (told_us (most := st) H0.out hx1 (by omega)).mono ?_
    rintro e w2 ⟨a2, N2, c2, rfl, hv2, k2⟩
    have b2 := k1.trans (k2.mono k1.size)
    have hx2 := hx1.below k2
    have hy2 := hy1.below k2
    go_wp2_with fail
    refine (rall_any H0.out hx2 (by omega)).mono ?_
    rintro e w3 ⟨v3, rfl, ho3, k3⟩
    have b3 := b2.trans (k3.mono b2.size)
    have hr3 := U64.us_of_own H3.out ho3
    have hv3 := hv2.below k3
    have hy3 := hy2.below k3
    go_wp2_with fail
    refine (nsame_any (m := st) hv3 hr3 (by omega) (by omega) rfl).mono ?_
    rintro e w4 ⟨rfl, k4⟩
    have b4 := b3.trans (k4.mono b3.size)
    have hy4 := hy3.below k4
    go_wp2_with fail
    refine (list_any hy4 (by omega)).mono ?_
    rintro e w5 ⟨a5, c5, rfl, hl5, k5⟩
    have b5 := b4.trans (k5.mono b4.size)
    have hy5 := hy4.below k5
    rw [H4.out] at hl5 ⊢
    have ht6 := told_us (most := 99) H4.out hl5 (by omega)
    go_wp2_with fail
    refine ht6.mono ?_
    rintro e w6 ⟨a6, N6, c6, rfl, hv6, k6⟩
    have b6 := b5.trans (k6.mono b5.size)
    have hy6 := hy5.below k6
    rw [H2.out] at hv6
    have hs7 := nsame_any (m := 99) hv6 hy6 (by omega) (by omega) rfl
    go_wp2_with fail
    refine hs7.mono ?_
    rintro e w7 ⟨rfl, k7⟩
    have b7 := b6.trans (k7.mono b6.size)
    go_wp2_with fail
    go_ret
    exact ⟨rfl, b7⟩
end Go.Proofs.Ytgckfndjbhjjoaa.Var
