/- A part of what twice_holds leans on (its texts, put together). Nothing is claimed here. -/
import Derived.BigQuiet
import Derived.Test.YtlfbnfphocpgeaaGreatDoorTw17
namespace Go.Proofs.YtlfbnfphocpgeaaGreatDoor.Num
open Go.RowKit Kit
set_option maxRecDepth 100000 in
set_option maxHeartbeats 1000000 in
theorem nright_all {w : World} {n : Dec} (hl : n.dig.length < 1000000000) :
    Calls Tryz.prog 100 #[numV n] w fun e w' => e = .returned (.bool (decide (Right n))) ∧ Below w.heap.size w w' := by
  obtain ⟨ng, l, ex⟩ := n
  simp only [numV]
  have hs := txt_size l
  have b0 : Below w.heap.size w (w.alloc (.cells #[.bool ng, .string (txt l), .int .i64 ex] 25)) := (Below.refl _ w).alloc (Nat.le_refl _) _
  by_cases h0 : l = []
  · subst h0
    have hR : decide (Right ⟨ng, [], ex⟩) = (!ng && decide (ex = 0)) := by unfold Right; cases ng <;> simp
    rw [hR]
    simp only [List.length_nil] at hs
    have he : (txt []).toList = [] := by unfold txt; rw [ByteArray.toList_mk]
    cases ng with
    | true =>
      go_enter Tryz.func100, Tryz.ntmps100
      go_wp2_with fail
      go_ret
      exact ⟨rfl, b0⟩
    | false =>
      by_cases h1 : ex = 0
      · subst h1
        go_enter Tryz.func100, Tryz.ntmps100
        go_wp2_with fail
        go_ret
        exact ⟨rfl, b0⟩
      · have h1' : (ex == 0) = false := by simp [h1]
        go_enter Tryz.func100, Tryz.ntmps100
        go_wp2_with fail
        go_ret
        exact ⟨by simp, b0⟩
  · have hn : 0 < l.length := by
      cases l with
      | nil => exact absurd rfl h0
      | cons _ _ => simp
    have hRi : Right ⟨ng, l, ex⟩ ↔ (l.length ≤ 1000 ∧ -10000 ≤ ex ∧ ex ≤ 10000 ∧ (∀ c ∈ l, dg c = true) ∧ nb l 0 ≠ 48 ∧ nb l (l.length - 1) ≠ 48) := by
      unfold Right; rw [if_neg h0]
    have he1 : (txt l).toList.isEmpty = false := by unfold txt; rw [ByteArray.toList_mk]; simp [h0]
    have he2 : ((txt l).toList == []) = false := by unfold txt; rw [ByteArray.toList_mk]; simp [h0]
    by_cases hb : l.length ≤ 1000 ∧ -10000 ≤ ex ∧ ex ≤ 10000
    · have c1 : decide ((1000 : Int) < (l.length : Int)) = false := by simp; omega
      have c2 : decide (ex < -10000) = false := by simp; omega
      have c3 : decide ((10000 : Int) < ex) = false := by simp; omega
      go_enter Tryz.func100, Tryz.ntmps100
      go_wp2_with fail
      go_loopw [32] (fun j wr => ∃ k : Nat, j = .int .i64 k ∧ k ≤ l.length ∧ (∀ c ∈ l.take k, dg c = true) ∧ wr = w.alloc (.cells #[.bool ng, .string (txt l), .int .i64 ex] 25)) (fun j _ => l.length - (intOf j).toNat)
      case atStart => exact ⟨0, rfl, Nat.zero_le _, by simp, rfl⟩
      case round =>
        obtain ⟨k, rfl, hk, hall, rfl⟩ := hrel
        by_cases hlt : k < l.length
        · have hlt' : (k : Int) < (l.length : Int) := by omega
          have i1 := idx hlt
          by_cases h : DigAt l k
          · have hall2 : ∀ c ∈ l.take (k + 1), dg c = true := by
              rw [List.take_succ_eq_append_getElem hlt]
              intro c hc
              rcases List.mem_append.1 hc with hc | hc
              · exact hall c hc
              · rw [List.mem_singleton] at hc
                subst hc
                exact (digAt_dg hlt).1 h
            have HA := Lib.hid hall2
            unfold DigAt at h
            have d1 : decide ((nb l k : Int) < 48) = false := by simp; omega
            have d2 : decide ((57 : Int) < (nb l k : Int)) = false := by simp; omega
            generalize nb l k = x at *
            clear hall hall2 h hRi
            go_wp2_with fail
            go_roundw
            case rel => exact ⟨k + 1, by go_num, by omega, HA.out, by first | trivial | rfl⟩
            case measure => simp [intOf]; omega
          · have hR : decide (Right ⟨ng, l, ex⟩) = false := decide_eq_false (fun e => h ((digAt_dg hlt).2 ((hRi.1 e).2.2.2.1 _ (List.getElem_mem hlt))))
            have HR := Lib.hid hR
            unfold DigAt at h
            generalize nb l k = x at *
            clear hall hRi hR
            by_cases h1 : x < 48
            · have d1 : (x : Int) < 48 := by omega
              clear h
              go_wp2_with fail
              go_ret
              rw [HR.out]
              exact ⟨rfl, b0⟩
            · have d1 : decide ((x : Int) < 48) = false := by simp; omega
              have d2 : (57 : Int) < (x : Int) := by omega
              clear h h1
              go_wp2_with fail
              go_ret
              rw [HR.out]
              exact ⟨rfl, b0⟩
        · obtain rfl : k = l.length := by omega
          rw [List.take_length] at hall
          have i1 := idx hn
          rw [show ((0 : Nat) : Int) = 0 from rfl] at i1
          have i2 := idx (l := l) (i := l.length - 1) (by omega)
          have hci : ((l.length - 1 : Nat) : Int) = (l.length : Int) - 1 := by omega
          rw [hci] at i2
          by_cases h1 : nb l 0 = 48
          · have hR : decide (Right ⟨ng, l, ex⟩) = false := decide_eq_false (fun e => (hRi.1 e).2.2.2.2.1 h1)
            have HR := Lib.hid hR
            rw [h1] at i1
            clear hall hRi hR hci i2
            go_wp2_with fail
            go_ret
            rw [HR.out]
            exact ⟨rfl, b0⟩
          · have h1' : ((nb l 0 : Int) != 48) = true := by simp; omega
            by_cases h2 : nb l (l.length - 1) = 48
            · have hR : decide (Right ⟨ng, l, ex⟩) = false := decide_eq_false (fun e => (hRi.1 e).2.2.2.2.2 h2)
              have HR := Lib.hid hR
              rw [h2] at i2
              clear hall hRi hR hci
              go_wp2_with fail
              go_ret
              rw [HR.out]
              exact ⟨rfl, b0⟩
            · have h2' : ((nb l (l.length - 1) : Int) != 48) = true := by simp; omega
              have hR : decide (Right ⟨ng, l, ex⟩) = true := decide_eq_true (hRi.2 ⟨hb.1, hb.2.1, hb.2.2, hall, h1, h2⟩)
              have HR := Lib.hid hR
              generalize nb l (l.length - 1) = y at *
              generalize nb l 0 = x at *
              clear hall hRi hR hci
              go_wp2_with fail
              go_ret
              rw [HR.out]
              exact ⟨rfl, b0⟩
    · have hR : decide (Right ⟨ng, l, ex⟩) = false := decide_eq_false (fun e => hb ⟨(hRi.1 e).1, (hRi.1 e).2.1, (hRi.1 e).2.2.1⟩)
      have HR := Lib.hid hR
      have hc : (1000 : Int) < (l.length : Int) ∨ (decide ((1000 : Int) < (l.length : Int)) = false ∧ ex < -10000) ∨ (decide ((1000 : Int) < (l.length : Int)) = false ∧ decide (ex < -10000) = false ∧ (10000 : Int) < ex) := by
        simp
        omega
      clear hRi hR hb
      rcases hc with c1 | ⟨c1, c2⟩ | ⟨c1, c2, c3⟩
      all_goals
        go_enter Tryz.func100, Tryz.ntmps100
        go_wp2_with fail
        go_ret
        rw [HR.out]
        exact ⟨rfl, b0⟩
def tcells : Array Value := (tab.map fun k => Value.int .i64 (k : Nat)).toArray
def Tab (w : World) : Prop := ∃ t fr, w.heap[0]? = some (.cells tcells t fr)
theorem Tab.below {w w' : World} (h : Tab w) (k : Below w.heap.size w w') : Tab w' := by
  obtain ⟨t, fr, hh⟩ := h
  exact ⟨t, fr, (k.block _ (lt_of_heap hh)).trans hh⟩
theorem tab_get {s c : Nat} (hs : s < 10) (hc : c < 7) : tcells[s * 7 + c]? = some (.int .i64 (stp s c : Nat)) := by
  have hl : s * 7 + c < tab.length := by show _ < 70; omega
  have e : tab[s * 7 + c]? = some (stp s c) := by
    unfold stp
    rw [List.getD_eq_getElem?_getD, List.getElem?_eq_getElem hl]
    rfl
  unfold tcells
  rw [List.getElem?_toArray, List.getElem?_map, e]
  rfl
theorem Tab.at {w : World} (h : Tab w) {s c : Nat} (hs : s < 10) (hc : c < 7) : w.cell? ⟨0, s * 7 + c, none⟩ = some (.int .i64 (stp s c : Nat)) := by
  obtain ⟨t, fr, hh⟩ := h
  have := tab_get hs hc
  simp only [World.cell?, hh]
  simpa using this
set_option maxRecDepth 100000 in
set_option maxHeartbeats 1000000 in
theorem sign_any {w : World} {x : Nat} : Calls Tryz.prog 93 #[.int .u8 x] w fun e w' => e = .returned (.int .i64 (sg x)) ∧ w' = w := by
  have hk : x = 48 ∨ x = 49 ∨ x = 50 ∨ x = 51 ∨ x = 52 ∨ x = 53 ∨ x = 54 ∨ x = 55 ∨ x = 56 ∨ x = 57 ∨ x = 45 ∨ x = 43 ∨ x = 46 ∨ x = 101 ∨ x = 69 ∨
      (x ≠ 48 ∧ ¬ (49 ≤ x ∧ x ≤ 57) ∧ x ≠ 45 ∧ x ≠ 43 ∧ x ≠ 46 ∧ ¬ (x = 101 ∨ x = 69)) := by omega
  rcases hk with rfl | rfl | rfl | rfl | rfl | rfl | rfl | rfl | rfl | rfl | rfl | rfl | rfl | rfl | rfl | ⟨a1, a2, a3, a4, a5, a6⟩
  iterate 15
    · go_enter Tryz.func93, Tryz.ntmps93
      go_wp2_with fail
      go_ret
      exact ⟨rfl, rfl⟩
  have hsg : sg x = 0 := by
    unfold sg
    rw [if_neg a1, if_neg a2, if_neg a3, if_neg a4, if_neg a5, if_neg a6]
  have n1 : ((x : Int) == 48) = false := by simp; omega
  have n2 : ((x : Int) == 49) = false := by simp; omega
  have n3 : ((x : Int) == 50) = false := by simp; omega
  have n4 : ((x : Int) == 51) = false := by simp; omega
  have n5 : ((x : Int) == 52) = false := by simp; omega
  have n6 : ((x : Int) == 53) = false := by simp; omega
  have n7 : ((x : Int) == 54) = false := by simp; omega
  have n8 : ((x : Int) == 55) = false := by simp; omega
  have n9 : ((x : Int) == 56) = false := by simp; omega
  have n10 : ((x : Int) == 57) = false := by simp; omega
  have n11 : ((x : Int) == 45) = false := by simp; omega
  have n12 : ((x : Int) == 43) = false := by simp; omega
  have n13 : ((x : Int) == 46) = false := by simp; omega
  have n14 : ((x : Int) == 101) = false := by simp; omega
  have n15 : ((x : Int) == 69) = false := by simp; omega
  rw [hsg]
  clear a1 a2 a3 a4 a5 a6 hsg
  go_enter Tryz.func93, Tryz.ntmps93
  go_wp2_with fail
  go_ret
  exact ⟨rfl, rfl⟩
set_option maxRecDepth 100000 in
theorem mayEnd_any {w : World} {s : Nat} (hs : s < 10) : Calls Tryz.prog 94 #[.int .i64 s] w fun e w' => e = .returned (.bool (fin s)) ∧ w' = w := by
  have hk : s = 0 ∨ s = 1 ∨ s = 2 ∨ s = 3 ∨ s = 4 ∨ s = 5 ∨ s = 6 ∨ s = 7 ∨ s = 8 ∨ s = 9 := by omega
  rcases hk with rfl | rfl | rfl | rfl | rfl | rfl | rfl | rfl | rfl | rfl
  all_goals
    go_enter Tryz.func94, Tryz.ntmps94
    go_wp2_with fail
    go_ret
    exact ⟨rfl, rfl⟩
theorem dfa_stop {s i L : Nat} {l : List UInt8} (hs : 0 < s ∧ s < 10) (h : stp s (sg (nb l i)) = 0) : dfa s (l.drop i) i L = L := by
  have h0 : stp s 0 = 0 := by
    have : ∀ s : Fin 10, stp s.1 0 = 0 := by decide
    exact this ⟨s, hs.2⟩
  rw [dfa_at h0, if_pos h]
theorem dfa_go {s i L : Nat} {l : List UInt8} (hs : 0 < s ∧ s < 10) (h : stp s (sg (nb l i)) ≠ 0) : dfa s (l.drop i) i L = dfa (stp s (sg (nb l i))) (l.drop (i + 1)) (i + 1) (if fin (stp s (sg (nb l i))) then i + 1 else L) := by
  have h0 : stp s 0 = 0 := by
    have : ∀ s : Fin 10, stp s.1 0 = 0 := by decide
    exact this ⟨s, hs.2⟩
  rw [dfa_at h0, if_neg h]
set_option maxRecDepth 100000 in
set_option maxHeartbeats 2000000 in
theorem nscan_tab {w : World} (ho : Tab w) {l : List UInt8} (hl : l.length < 100000) :
    Calls Tryz.prog 66 #[.string (txt l)] w fun e w' => e = .returned (.int .i64 (scan l)) ∧ Below w.heap.size w w' := by
  have hs := txt_size l
  have hd0 := dfa_scan l
  go_enter Tryz.func66, Tryz.ntmps66
  go_wp2_with fail
  go_loopw [3, 4, 8] (fun L s i wr => ∃ (k st Lg : Nat), L = .int .i64 Lg ∧ s = .int .i64 st ∧ i = .int .i64 k ∧ k ≤ l.length ∧ (0 < st ∧ st < 10) ∧ dfa st (l.drop k) k Lg = scan l ∧ Below w.heap.size w wr) (fun _ _ i _ => l.length - (intOf i).toNat)
  case atStart => exact ⟨0, 1, 0, rfl, rfl, rfl, Nat.zero_le _, by decide, hd0, Below.refl _ _⟩
  case round =>
    clear hd0
    obtain ⟨k, st, Lg, rfl, rfl, rfl, hk, hst, hd, hbel⟩ := hrel
    have hT := ho.below hbel
    by_cases hlt : k < l.length
    · have hlt' : (k : Int) < (l.length : Int) := by omega
      have i1 := idx hlt
      have hc := sg_lt (nb l k)
      have hsl := stp_lt hst.2 hc
      have hcell := hT.at hst.2 hc
      have hsgn := fun wx => sign_any (w := wx) (x := nb l k)
      have hstop := dfa_stop (L := Lg) (i := k) (l := l) hst
      have hgo := dfa_go (L := Lg) (i := k) (l := l) hst
      generalize nb l k = x at *
      generalize hcx : sg x = c at *
      generalize hsx : stp st c = s2 at *
      have hst0 := hst.1
      have hst1 := hst.2
      have c1 : ((st : Int)) < 10 := by omega
      have c2 : ((c : Int)) < 7 := by omega
      have bd := below_drewN hbel 1
      have HGO := Lib.hid hgo
      have HSTOP := Lib.hid hstop
      have HD := Lib.hid hd
      have HH := Lib.hid hT
      clear hgo hstop hd hT ho hst
      go_wp2_with fail
      go_region_held3 (fun wx => wx.cell? ⟨0, st * 7 + c, none⟩ = some (.int .i64 (s2 : Nat)) ∧ Below w.heap.size w wx)
        (first | exact ⟨hcell, bd⟩ | assumption)
        (first | (go_at_call 93; refine (hsgn _).mono ?_; rintro e wx ⟨rfl, rfl⟩))
      clear hcell
      by_cases h0 : s2 = 0
      · have hL : Lg = scan l := (HSTOP.out h0).symm.trans HD.out
        have HL := Lib.hid hL
        subst h0
        clear HGO HSTOP HD hL hsx hcx
        go_wp2_with fail
        go_ret
        rw [HL.out]
        exact ⟨rfl, bd⟩
      · have h0' : ((s2 : Int) == 0) = false := by simp; omega
        have hme := mayEnd_any (w := World.drew wr) (s := s2) hsl
        have hd2 := (HGO.out h0).symm.trans HD.out
        have hpos : 0 < s2 := by omega
        clear HGO HSTOP HD hsx hcx
        cases hf : fin s2 with
        | true =>
          rw [hf] at hme
          rw [hf, if_pos rfl] at hd2
          have HD := Lib.hid hd2
          clear hd2 h0 hf
          go_wp2_with fail
          refine hme.mono ?_
          rintro e wx ⟨rfl, rfl⟩
          go_wp2_with fail
          go_roundw
          case rel => exact ⟨k + 1, s2, k + 1, by go_num, rfl, by go_num, by omega, ⟨hpos, hsl⟩, HD.out, bd⟩
          case measure => simp [intOf]; omega
        | false =>
          rw [hf] at hme
          rw [hf, if_neg (by simp)] at hd2
          have HD := Lib.hid hd2
          clear hd2 h0 hf
          go_wp2_with fail
          refine hme.mono ?_
          rintro e wx ⟨rfl, rfl⟩
          go_wp2_with fail
          go_roundw
          case rel => exact ⟨k + 1, s2, Lg, rfl, rfl, by go_num, by omega, ⟨hpos, hsl⟩, HD.out, bd⟩
          case measure => simp [intOf]; omega
    · obtain rfl : l.length = k := by omega
      rw [List.drop_length] at hd
      have hd' : Lg = scan l := by rw [← hd]; cases st <;> rfl
      have HD := Lib.hid hd'
      clear hd hd'
      go_wp2_with fail
      go_ret
      rw [HD.out]
      exact ⟨rfl, hbel⟩
end Go.Proofs.YtlfbnfphocpgeaaGreatDoor.Num
