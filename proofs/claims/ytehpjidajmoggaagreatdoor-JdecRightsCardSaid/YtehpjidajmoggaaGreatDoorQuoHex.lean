/- The contracts of the document's own answer for layer 7 (package tabulariumref07): hex, digit, short, unit. Nothing is claimed here. -/
import Derived.Test.YtehpjidajmoggaaGreatDoorQuoPrint
import Derived.Test.YtehpjidajmoggaaGreatDoorTexts
import Derived.Lib.Hide
namespace Go.Proofs.YtehpjidajmoggaaGreatDoor.Quo
open Go.RowKit Kit Txt Utf

/-- A hexadecimal digit's value, or -1. -/
def hexI (c : UInt8) : Int := match hexV c with
  | some d => d
  | none => -1
theorem hexI_cases (c : UInt8) : (48 ≤ c.toNat ∧ c.toNat ≤ 57 ∧ hexI c = (c.toNat : Int) - 48) ∨ (97 ≤ c.toNat ∧ c.toNat ≤ 102 ∧ hexI c = (c.toNat : Int) - 97 + 10) ∨ (65 ≤ c.toNat ∧ c.toNat ≤ 70 ∧ hexI c = (c.toNat : Int) - 65 + 10) ∨
    (¬ (48 ≤ c.toNat ∧ c.toNat ≤ 57) ∧ ¬ (97 ≤ c.toNat ∧ c.toNat ≤ 102) ∧ ¬ (65 ≤ c.toNat ∧ c.toNat ≤ 70) ∧ hexI c = -1) := by
  unfold hexI hexV
  by_cases h1 : 48 ≤ c.toNat ∧ c.toNat ≤ 57
  · left
    rw [if_pos h1]
    exact ⟨h1.1, h1.2, by dsimp only; omega⟩
  rw [if_neg h1]
  by_cases h2 : 97 ≤ c.toNat ∧ c.toNat ≤ 102
  · right; left
    rw [if_pos h2]
    exact ⟨h2.1, h2.2, by dsimp only; omega⟩
  rw [if_neg h2]
  by_cases h3 : 65 ≤ c.toNat ∧ c.toNat ≤ 70
  · right; right; left
    rw [if_pos h3]
    exact ⟨h3.1, h3.2, by dsimp only; omega⟩
  rw [if_neg h3]
  exact .inr (.inr (.inr ⟨h1, h2, h3, rfl⟩))
theorem hexI_none {c : UInt8} (h : hexV c = none) : hexI c = -1 := by unfold hexI; rw [h]
theorem hexI_some {c : UInt8} {d : Nat} (h : hexV c = some d) : hexI c = d ∧ d ≤ 15 := by
  have := hexI_cases c
  have hlt := c.toNat_lt
  have e : hexI c = d := by unfold hexI; rw [h]
  exact ⟨e, by omega⟩
set_option maxRecDepth 100000 in
set_option maxHeartbeats 1000000 in
theorem hex_any {w : World} (c : UInt8) : Calls Tryz.prog 107 #[.int .u8 (c.toNat : Int)] w fun e w' => e = .returned (.int .i64 (hexI c)) ∧ w' = w := by
  have hlt : c.toNat < 256 := c.toNat_lt
  have hc := hexI_cases c
  generalize c.toNat = x at *
  have w1 : 48 ≤ x → IntKind.u8.wrap ((x : Int) - 48) = (x : Int) - 48 := fun h => by simp only [IntKind.wrap, IntKind.signed, IntKind.bits]; simp; omega
  have w2 : 97 ≤ x → IntKind.u8.wrap ((x : Int) - 97) = (x : Int) - 97 := fun h => by simp only [IntKind.wrap, IntKind.signed, IntKind.bits]; simp; omega
  have w3 : 65 ≤ x → IntKind.u8.wrap ((x : Int) - 65) = (x : Int) - 65 := fun h => by simp only [IntKind.wrap, IntKind.signed, IntKind.bits]; simp; omega
  rcases hc with ⟨h1, h2, h3⟩ | ⟨h1, h2, h3⟩ | ⟨h1, h2, h3⟩ | ⟨h1, h2, h3, h4⟩
  · rw [h3]
    have w1 := w1 h1
    have d1 : (48 : Int) ≤ (x : Int) := by omega
    have d2 : (x : Int) ≤ 57 := by omega
    clear h3
    go_enter Tryz.func107, Tryz.ntmps107
    go_wp2_with fail
    go_ret
    simp
  · rw [h3]
    have w2 := w2 h1
    have d1 : (48 : Int) ≤ (x : Int) := by omega
    have d2 : decide ((x : Int) ≤ 57) = false := by simp; omega
    have d3 : (97 : Int) ≤ (x : Int) := by omega
    have d4 : (x : Int) ≤ 102 := by omega
    clear h3
    go_enter Tryz.func107, Tryz.ntmps107
    go_wp2_with fail
    go_ret
    simp
  · rw [h3]
    have w3 := w3 h1
    have d1 : (48 : Int) ≤ (x : Int) := by omega
    have d2 : decide ((x : Int) ≤ 57) = false := by simp; omega
    have d3 : decide ((97 : Int) ≤ (x : Int)) = false := by simp; omega
    have d4 : (65 : Int) ≤ (x : Int) := by omega
    have d5 : (x : Int) ≤ 70 := by omega
    clear h3
    go_enter Tryz.func107, Tryz.ntmps107
    go_wp2_with fail
    go_ret
    simp
  · rw [h4]
    have q1 : decide ((48 : Int) ≤ (x : Int)) = false ∨ (decide ((48 : Int) ≤ (x : Int)) = true ∧ decide ((x : Int) ≤ 57) = false) := by simp; omega
    have q2 : decide ((97 : Int) ≤ (x : Int)) = false ∨ (decide ((97 : Int) ≤ (x : Int)) = true ∧ decide ((x : Int) ≤ 102) = false) := by simp; omega
    have q3 : decide ((65 : Int) ≤ (x : Int)) = false ∨ (decide ((65 : Int) ≤ (x : Int)) = true ∧ decide ((x : Int) ≤ 70) = false) := by simp; omega
    clear h4 w1 w2 w3 h1 h2 h3
    rcases q1 with q1 | ⟨q1, q1'⟩ <;> rcases q2 with q2 | ⟨q2, q2'⟩ <;> rcases q3 with q3 | ⟨q3, q3'⟩
    all_goals
      go_enter Tryz.func107, Tryz.ntmps107
      go_wp2_with fail
      go_ret
      simp

/-- The sign behind a backslash, as a text. -/
def shortT (c : UInt8) : List UInt8 := match shortB c with
  | some x => [x]
  | none => []
theorem unitF_nil {k n : Nat} : unitF (k + 1) n [] = (0, 2) := rfl
theorem unitF_none {k n : Nat} {c : UInt8} {r : List UInt8} (h : hexV c = none) : unitF (k + 1) n (c :: r) = (0, 3) := by unfold unitF; rw [h]
theorem unitF_some {k n d : Nat} {c : UInt8} {r : List UInt8} (h : hexV c = some d) : unitF (k + 1) n (c :: r) = unitF k (n * 16 + d) r := by rw [unitF, h]

set_option maxRecDepth 100000 in
set_option maxHeartbeats 2000000 in
theorem unit_any {w : World} {l : List UInt8} {i : Nat} (_hl : l.length < 1000000) (hi : i < 2000000) :
    Calls Tryz.prog 91 #[.string (txt l), .int .i64 i] w fun e w' => e = .returned (.tuple #[.int .i64 (unit (l.drop i)).1, .int .i64 (unit (l.drop i)).2]) ∧ w' = w := by
  have hs := txt_size l
  go_enter Tryz.func91, Tryz.ntmps91
  go_wp2_with fail
  go_loopw [6, 7] (fun n j wr => ∃ (k v : Nat), k ≤ 4 ∧ j = .int .i64 k ∧ n = .int .i64 v ∧ v < 16 ^ k ∧ unit (l.drop i) = unitF (4 - k) v (l.drop (i + k)) ∧ wr = w) (fun _ j _ => 4 - (intOf j).toNat)
  case atStart => exact ⟨0, 0, by omega, rfl, rfl, by decide, rfl, rfl⟩
  case round =>
    obtain ⟨k, v, hk, rfl, rfl, hv, hu, rfl⟩ := hrel
    have hv4 : v < 65536 := Nat.lt_of_lt_of_le hv (Nat.pow_le_pow_right (n := 16) (by omega) hk)
    by_cases h4 : k < 4
    · have h4' : (k : Int) < 4 := by omega
      have h4'' : decide (k < 4) = true := by simp; omega
      obtain ⟨m, hm⟩ : ∃ m, 4 - k = m + 1 := ⟨3 - k, by omega⟩
      rw [hm] at hu
      obtain ⟨q, hq⟩ : ∃ q, i + k = q := ⟨_, rfl⟩
      have hqi : (i : Int) + (k : Int) = (q : Int) := by omega
      have wq : IntKind.i64.wrap (q : Int) = (q : Int) := by simp only [IntKind.wrap, IntKind.signed, IntKind.bits]; simp; omega
      rw [hq] at hu
      by_cases hlt : q < l.length
      · have hlt' : decide (l.length ≤ q) = false := by simp; omega
        have hix := idx hlt
        have hd : l.drop q = l[q] :: l.drop (q + 1) := List.drop_eq_getElem_cons hlt
        rw [nb_get hlt] at hix
        rw [hd] at hu
        have hx := fun wx => hex_any (w := wx) l[q]
        have hc := hexI_cases l[q]
        cases hh : hexV l[q] with
        | none =>
          rw [unitF_none hh] at hu
          have e := hexI_none hh
          simp only [e] at hx
          generalize (l[q]).toNat = x at *
          have HU := Lib.hid hu
          clear hu hd hc hh e
          go_wp2_with fail
          refine (hx _).mono ?_
          rintro e w1 ⟨rfl, rfl⟩
          go_wp2_with fail
          refine bodyPost_ret (v := .tuple #[.int .i64 0, .int .i64 3]) (by simp [results, Tryz.results91, go_sem]) rfl ⟨by rw [HU.out]; rfl, rfl⟩
        | some d =>
          rw [unitF_some hh] at hu
          obtain ⟨e, hd15⟩ := hexI_some hh
          simp only [e] at hx
          have hv2 : v * 16 + d < 16 ^ (k + 1) := by rw [Nat.pow_succ]; omega
          have hm2 : 4 - (k + 1) = m := by omega
          have hq2 : i + (k + 1) = q + 1 := by omega
          rw [← hm2, ← hq2] at hu
          generalize (l[q]).toNat = x at *
          have HU := Lib.hid hu
          have HV := Lib.hid hv2
          clear hu hd hc hh e hv hv2 hm2 hq2 hm
          go_wp2_with fail
          refine (hx _).mono ?_
          rintro e w1 ⟨rfl, rfl⟩
          go_wp2_with fail
          go_roundw
          case rel => exact ⟨k + 1, v * 16 + d, by omega, by go_num, by go_num, HV.out, HU.out, by first | trivial | rfl⟩
          case measure => simp [intOf]; omega
      · have hlt' : decide (l.length ≤ q) = true := by simp; omega
        have hn : l.drop q = [] := List.drop_eq_nil_of_le (by omega)
        rw [hn, unitF_nil] at hu
        have HU := Lib.hid hu
        clear hu hn
        go_wp2_with fail
        refine bodyPost_ret (v := .tuple #[.int .i64 0, .int .i64 2]) (by simp [results, Tryz.results91, go_sem]) rfl ⟨by rw [HU.out]; rfl, rfl⟩
    · obtain rfl : k = 4 := by omega
      have hu2 : unit (l.drop i) = (v, 0) := hu
      have HU := Lib.hid hu2
      clear hu hu2 hv
      go_wp2_with fail
      refine bodyPost_ret (v := .tuple #[.int .i64 v, .int .i64 0]) (by simp [results, Tryz.results91, go_sem]) rfl ⟨by rw [HU.out]; rfl, rfl⟩
end Go.Proofs.YtehpjidajmoggaaGreatDoor.Quo
