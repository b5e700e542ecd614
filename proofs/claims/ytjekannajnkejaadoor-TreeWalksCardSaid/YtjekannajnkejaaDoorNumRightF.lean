/- The contract of package num's Right as it landed. Nothing is claimed here. -/
import Derived.Test.YtjekannajnkejaaDoorNumRight
import Derived.Deep.QuietTactic
import Derived.BigQuiet
namespace Go.Proofs.YtjekannajnkejaaDoor.Num
open Go.RowKit Kit

set_option maxRecDepth 100000 in
set_option maxHeartbeats 1000000 in
theorem nright_all {w : World} {n : Dec} (hl : n.dig.length < 1000000000) :
    Calls Tryd.prog 44 #[numV n] w fun e w' => e = .returned (.bool (decide (Right n))) ∧ Below w.heap.size w w' := by
  obtain ⟨ng, l, ex⟩ := n
  simp only [numV]
  have hs := txt_size l
  have b0 : Below w.heap.size w (w.alloc (.cells #[.bool ng, .string (txt l), .int .i64 ex] 23)) := (Below.refl _ w).alloc (Nat.le_refl _) _
  by_cases h0 : l = []
  · subst h0
    have hR : decide (Right ⟨ng, [], ex⟩) = (!ng && decide (ex = 0)) := by unfold Right; cases ng <;> simp
    rw [hR]
    simp only [List.length_nil] at hs
    have he : (txt []).toList = [] := by unfold txt; rw [ByteArray.toList_mk]
    cases ng with
    | true =>
      go_enter Tryd.func44, Tryd.ntmps44
      go_wp2_with fail
      go_ret
      exact ⟨rfl, b0⟩
    | false =>
      by_cases h1 : ex = 0
      · subst h1
        go_enter Tryd.func44, Tryd.ntmps44
        go_wp2_with fail
        go_ret
        exact ⟨rfl, b0⟩
      · have h1' : (ex == 0) = false := by simp [h1]
        go_enter Tryd.func44, Tryd.ntmps44
        go_wp2_with fail
        go_ret
        exact ⟨by simp, b0⟩
  · have hn : 0 < l.length := by
      cases l with
      | nil => exact absurd rfl h0
      | cons _ _ => simp
    have hRi : Right ⟨ng, l, ex⟩ ↔ (l.length ≤ 1000 ∧ -10000 ≤ ex ∧ ex ≤ 10000 ∧ (∀ c ∈ l, dg c = true) ∧ nb l 0 ≠ 48 ∧ nb l (l.length - 1) ≠ 48) := by
      unfold Right; rw [if_neg h0]
    have he1 : (txt l).toList.isEmpty = false := by unfold txt; rw [ByteArray.toList_mk]; simp [h0]
    have he2 : ((txt l).toList == []) = false := by unfold txt; rw [ByteArray.toList_mk]; simp [h0]
    by_cases hb : l.length ≤ 1000 ∧ -10000 ≤ ex ∧ ex ≤ 10000
    · have c1 : decide ((1000 : Int) < (l.length : Int)) = false := by simp; omega
      have c2 : decide (ex < -10000) = false := by simp; omega
      have c3 : decide ((10000 : Int) < ex) = false := by simp; omega
      go_enter Tryd.func44, Tryd.ntmps44
      go_wp2_with fail
      go_loopw [32] (fun j wr => ∃ k : Nat, j = .int .i64 k ∧ k ≤ l.length ∧ (∀ c ∈ l.take k, dg c = true) ∧ wr = w.alloc (.cells #[.bool ng, .string (txt l), .int .i64 ex] 23)) (fun j _ => l.length - (intOf j).toNat)
      case atStart => exact ⟨0, rfl, Nat.zero_le _, by simp, rfl⟩
      case round =>
        obtain ⟨k, rfl, hk, hall, rfl⟩ := hrel
        by_cases hlt : k < l.length
        · have hlt' : (k : Int) < (l.length : Int) := by omega
          have i1 := idx hlt
          by_cases h : DigAt l k
          · have hall2 : ∀ c ∈ l.take (k + 1), dg c = true := by
              rw [List.take_succ_eq_append_getElem hlt]
              intro c hc
              rcases List.mem_append.1 hc with hc | hc
              · exact hall c hc
              · rw [List.mem_singleton] at hc
                subst hc
                exact (digAt_dg hlt).1 h
            have HA := Lib.hid hall2
            unfold DigAt at h
            have d1 : decide ((nb l k : Int) < 48) = false := by simp; omega
            have d2 : decide ((57 : Int) < (nb l k : Int)) = false := by simp; omega
            generalize nb l k = x at *
            clear hall hall2 h hRi
            go_wp2_with fail
            go_roundw
            case rel => exact ⟨k + 1, by go_num, by omega, HA.out, by first | trivial | rfl⟩
            case measure => simp [intOf]; omega
          · have hR : decide (Right ⟨ng, l, ex⟩) = false := decide_eq_false (fun e => h ((digAt_dg hlt).2 ((hRi.1 e).2.2.2.1 _ (List.getElem_mem hlt))))
            have HR := Lib.hid hR
            unfold DigAt at h
            generalize nb l k = x at *
            clear hall hRi hR
            by_cases h1 : x < 48
            · have d1 : (x : Int) < 48 := by omega
              clear h
              go_wp2_with fail
              go_ret
              rw [HR.out]
              exact ⟨rfl, b0⟩
            · have d1 : decide ((x : Int) < 48) = false := by simp; omega
              have d2 : (57 : Int) < (x : Int) := by omega
              clear h h1
              go_wp2_with fail
              go_ret
              rw [HR.out]
              exact ⟨rfl, b0⟩
        · obtain rfl : k = l.length := by omega
          rw [List.take_length] at hall
          have i1 := idx hn
          rw [show ((0 : Nat) : Int) = 0 from rfl] at i1
          have i2 := idx (l := l) (i := l.length - 1) (by omega)
          have hci : ((l.length - 1 : Nat) : Int) = (l.length : Int) - 1 := by omega
          rw [hci] at i2
          by_cases h1 : nb l 0 = 48
          · have hR : decide (Right ⟨ng, l, ex⟩) = false := decide_eq_false (fun e => (hRi.1 e).2.2.2.2.1 h1)
            have HR := Lib.hid hR
            rw [h1] at i1
            clear hall hRi hR hci i2
            go_wp2_with fail
            go_ret
            rw [HR.out]
            exact ⟨rfl, b0⟩
          · have h1' : ((nb l 0 : Int) != 48) = true := by simp; omega
            by_cases h2 : nb l (l.length - 1) = 48
            · have hR : decide (Right ⟨ng, l, ex⟩) = false := decide_eq_false (fun e => (hRi.1 e).2.2.2.2.2 h2)
              have HR := Lib.hid hR
              rw [h2] at i2
              clear hall hRi hR hci
              go_wp2_with fail
              go_ret
              rw [HR.out]
              exact ⟨rfl, b0⟩
            · have h2' : ((nb l (l.length - 1) : Int) != 48) = true := by simp; omega
              have hR : decide (Right ⟨ng, l, ex⟩) = true := decide_eq_true (hRi.2 ⟨hb.1, hb.2.1, hb.2.2, hall, h1, h2⟩)
              have HR := Lib.hid hR
              generalize nb l (l.length - 1) = y at *
              generalize nb l 0 = x at *
              clear hall hRi hR hci
              go_wp2_with fail
              go_ret
              rw [HR.out]
              exact ⟨rfl, b0⟩
    · have hR : decide (Right ⟨ng, l, ex⟩) = false := decide_eq_false (fun e => hb ⟨(hRi.1 e).1, (hRi.1 e).2.1, (hRi.1 e).2.2.1⟩)
      have HR := Lib.hid hR
      have hc : (1000 : Int) < (l.length : Int) ∨ (decide ((1000 : Int) < (l.length : Int)) = false ∧ ex < -10000) ∨ (decide ((1000 : Int) < (l.length : Int)) = false ∧ decide (ex < -10000) = false ∧ (10000 : Int) < ex) := by
        simp
        omega
      clear hRi hR hb
      rcases hc with c1 | ⟨c1, c2⟩ | ⟨c1, c2, c3⟩
      all_goals
        go_enter Tryd.func44, Tryd.ntmps44
        go_wp2_with fail
        go_ret
        rw [HR.out]
        exact ⟨rfl, b0⟩
end Go.Proofs.YtjekannajnkejaaDoor.Num
