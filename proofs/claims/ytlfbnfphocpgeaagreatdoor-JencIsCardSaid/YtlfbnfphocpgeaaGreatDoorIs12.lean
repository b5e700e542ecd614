/- A part of what is_holds leans on (its texts, put together). Nothing is claimed here. -/
import Derived.RangeFuncNested
import Derived.RangeFuncBound
import Derived.RangeFuncCalls
import Derived.RangeFuncLeaves
import Derived.OwnWalkIn
import Derived.TacticsInMore
import Derived.LoopNIn
import Derived.LoopIn
import Derived.Test.YtlfbnfphocpgeaaGreatDoorIs6
namespace Go.Proofs.YtlfbnfphocpgeaaGreatDoor.Num
open Go.RowKit Kit
set_option maxRecDepth 100000 in
set_option maxHeartbeats 1000000 in
theorem nright_all {w : World} {n : Dec} (hl : n.dig.length < 1000000000) :
   Calls Tryz.prog 100 #[numV n] w fun e w' => e = .returned (.bool (decide (Right n))) ∧ Below w.heap.size w w' := by
 obtain ⟨ng, l, ex⟩ := n
 simp only [numV]
 have hs := txt_size l
 have b0 : Below w.heap.size w (w.alloc (.cells #[.bool ng, .string (txt l), .int .i64 ex] 25)) := (Below.refl _ w).alloc (Nat.le_refl _) _
 by_cases h0 : l = []
 · subst h0
   have hR : decide (Right ⟨ng, [], ex⟩) = (!ng && decide (ex = 0)) := by unfold Right; cases ng <;> simp
   rw [hR]
   simp only [List.length_nil] at hs
   have he : (txt []).toList = [] := by unfold txt; rw [ByteArray.toList_mk]
   cases ng with
   | true =>
     go_enter Tryz.func100, Tryz.ntmps100
     go_wp2_with fail
     go_ret
     exact ⟨rfl, b0⟩
   | false =>
     by_cases h1 : ex = 0
     · subst h1
       go_enter Tryz.func100, Tryz.ntmps100
       go_wp2_with fail
       go_ret
       exact ⟨rfl, b0⟩
     · have h1' : (ex == 0) = false := by simp [h1]
       go_enter Tryz.func100, Tryz.ntmps100
       go_wp2_with fail
       go_ret
       exact ⟨by simp, b0⟩
 · have hn : 0 < l.length := by
     cases l with
     | nil => exact absurd rfl h0
     | cons _ _ => simp
   have hRi : Right ⟨ng, l, ex⟩ ↔ (l.length ≤ 1000 ∧ -10000 ≤ ex ∧ ex ≤ 10000 ∧ (∀ c ∈ l, dg c = true) ∧ nb l 0 ≠ 48 ∧ nb l (l.length - 1) ≠ 48) := by
     unfold Right; rw [if_neg h0]
   have he1 : (txt l).toList.isEmpty = false := by unfold txt; rw [ByteArray.toList_mk]; simp [h0]
   have he2 : ((txt l).toList == []) = false := by unfold txt; rw [ByteArray.toList_mk]; simp [h0]
   by_cases hb : l.length ≤ 1000 ∧ -10000 ≤ ex ∧ ex ≤ 10000
   · have c1 : decide ((1000 : Int) < (l.length : Int)) = false := by simp; omega
     have c2 : decide (ex < -10000) = false := by simp; omega
     have c3 : decide ((10000 : Int) < ex) = false := by simp; omega
     go_enter Tryz.func100, Tryz.ntmps100
     go_wp2_with fail
     go_loopw [32] (fun j wr => ∃ k : Nat, j = .int .i64 k ∧ k ≤ l.length ∧ (∀ c ∈ l.take k, dg c = true) ∧ wr = w.alloc (.cells #[.bool ng, .string (txt l), .int .i64 ex] 25)) (fun j _ => l.length - (intOf j).toNat)
     case atStart => exact ⟨0, rfl, Nat.zero_le _, by simp, rfl⟩
     case round =>
       obtain ⟨k, rfl, hk, hall, rfl⟩ := hrel
       by_cases hlt : k < l.length
       · have hlt' : (k : Int) < (l.length : Int) := by omega
         have i1 := idx hlt
         by_cases h : DigAt l k
         · have hall2 : ∀ c ∈ l.take (k + 1), dg c = true := by
             rw [List.take_succ_eq_append_getElem hlt]
             intro c hc
             rcases List.mem_append.1 hc with hc | hc
             · exact hall c hc
             · rw [List.mem_singleton] at hc
               subst hc
               exact (digAt_dg hlt).1 h
           have HA := Lib.hid hall2
           unfold DigAt at h
           have d1 : decide ((nb l k : Int) < 48) = false := by simp; omega
           have d2 : decide ((57 : Int) < (nb l k : Int)) = false := by simp; omega
           generalize nb l k = x at *
           clear hall hall2 h hRi
           go_wp2_with fail
           go_roundw
           case rel => exact ⟨k + 1, by go_num, by omega, HA.out, by first | trivial | rfl⟩
           case measure => simp [intOf]; omega
         · have hR : decide (Right ⟨ng, l, ex⟩) = false := decide_eq_false (fun e => h ((digAt_dg hlt).2 ((hRi.1 e).2.2.2.1 _ (List.getElem_mem hlt))))
           have HR := Lib.hid hR
           unfold DigAt at h
           generalize nb l k = x at *
           clear hall hRi hR
           by_cases h1 : x < 48
           · have d1 : (x : Int) < 48 := by omega
             clear h
             go_wp2_with fail
             go_ret
             rw [HR.out]
             exact ⟨rfl, b0⟩
           · have d1 : decide ((x : Int) < 48) = false := by simp; omega
             have d2 : (57 : Int) < (x : Int) := by omega
             clear h h1
             go_wp2_with fail
             go_ret
             rw [HR.out]
             exact ⟨rfl, b0⟩
       · obtain rfl : k = l.length := by omega
         rw [List.take_length] at hall
         have i1 := idx hn
         rw [show ((0 : Nat) : Int) = 0 from rfl] at i1
         have i2 := idx (l := l) (i := l.length - 1) (by omega)
         have hci : ((l.length - 1 : Nat) : Int) = (l.length : Int) - 1 := by omega
         rw [hci] at i2
         by_cases h1 : nb l 0 = 48
         · have hR : decide (Right ⟨ng, l, ex⟩) = false := decide_eq_false (fun e => (hRi.1 e).2.2.2.2.1 h1)
           have HR := Lib.hid hR
           rw [h1] at i1
           clear hall hRi hR hci i2
           go_wp2_with fail
           go_ret
           rw [HR.out]
           exact ⟨rfl, b0⟩
         · have h1' : ((nb l 0 : Int) != 48) = true := by simp; omega
           by_cases h2 : nb l (l.length - 1) = 48
           · have hR : decide (Right ⟨ng, l, ex⟩) = false := decide_eq_false (fun e => (hRi.1 e).2.2.2.2.2 h2)
             have HR := Lib.hid hR
             rw [h2] at i2
             clear hall hRi hR hci
             go_wp2_with fail
             go_ret
             rw [HR.out]
             exact ⟨rfl, b0⟩
           · have h2' : ((nb l (l.length - 1) : Int) != 48) = true := by simp; omega
             have hR : decide (Right ⟨ng, l, ex⟩) = true := decide_eq_true (hRi.2 ⟨hb.1, hb.2.1, hb.2.2, hall, h1, h2⟩)
             have HR := Lib.hid hR
             generalize nb l (l.length - 1) = y at *
             generalize nb l 0 = x at *
             clear hall hRi hR hci
             go_wp2_with fail
             go_ret
             rw [HR.out]
             exact ⟨rfl, b0⟩
   · have hR : decide (Right ⟨ng, l, ex⟩) = false := decide_eq_false (fun e => hb ⟨(hRi.1 e).1, (hRi.1 e).2.1, (hRi.1 e).2.2.1⟩)
     have HR := Lib.hid hR
     have hc : (1000 : Int) < (l.length : Int) ∨ (decide ((1000 : Int) < (l.length : Int)) = false ∧ ex < -10000) ∨ (decide ((1000 : Int) < (l.length : Int)) = false ∧ decide (ex < -10000) = false ∧ (10000 : Int) < ex) := by
       simp
       omega
     clear hRi hR hb
     rcases hc with c1 | ⟨c1, c2⟩ | ⟨c1, c2, c3⟩
     all_goals
       go_enter Tryz.func100, Tryz.ntmps100
       go_wp2_with fail
       go_ret
       rw [HR.out]
       exact ⟨rfl, b0⟩
end Go.Proofs.YtlfbnfphocpgeaaGreatDoor.Num
namespace Go.Proofs.YtlfbnfphocpgeaaGreatDoor.Utf
open Go.RowKit Kit
/-! ### The table -/
def kL : Nat → Int
 | 0 => 0
 | 1 => 194
 | 2 => 224
 | 3 => 225
 | 4 => 237
 | 5 => 238
 | 6 => 240
 | 7 => 241
 | 8 => 244
 | _ => 0
def kM : Nat → Int
 | 0 => 127
 | 1 => 223
 | 2 => 224
 | 3 => 236
 | 4 => 237
 | 5 => 239
 | 6 => 240
 | 7 => 243
 | 8 => 244
 | _ => 0
def kS : Nat → Int
 | 0 => 1
 | 1 => 2
 | 2 => 3
 | 3 => 3
 | 4 => 3
 | 5 => 3
 | 6 => 4
 | 7 => 4
 | 8 => 4
 | _ => 0
def kK : Nat → Int
 | 0 => 0
 | 1 => 192
 | 2 => 224
 | 3 => 224
 | 4 => 224
 | 5 => 224
 | 6 => 240
 | 7 => 240
 | 8 => 240
 | _ => 0
def kA : Nat → Int
 | 0 => 0
 | 1 => 128
 | 2 => 160
 | 3 => 128
 | 4 => 128
 | 5 => 128
 | 6 => 144
 | 7 => 128
 | 8 => 128
 | _ => 0
def kB : Nat → Int
 | 0 => 0
 | 1 => 191
 | 2 => 191
 | 3 => 191
 | 4 => 159
 | 5 => 191
 | 6 => 191
 | 7 => 191
 | 8 => 143
 | _ => 0
def kcells : Array Value := #[.int .u8 0, .int .u8 127, .int .i64 1, .int .u8 0, .int .u8 0, .int .u8 0, .int .u8 194, .int .u8 223, .int .i64 2, .int .u8 192, .int .u8 128, .int .u8 191, .int .u8 224, .int .u8 224, .int .i64 3, .int .u8 224, .int .u8 160, .int .u8 191, .int .u8 225, .int .u8 236, .int .i64 3, .int .u8 224, .int .u8 128, .int .u8 191, .int .u8 237, .int .u8 237, .int .i64 3, .int .u8 224, .int .u8 128, .int .u8 159, .int .u8 238, .int .u8 239, .int .i64 3, .int .u8 224, .int .u8 128, .int .u8 191, .int .u8 240, .int .u8 240, .int .i64 4, .int .u8 240, .int .u8 144, .int .u8 191, .int .u8 241, .int .u8 243, .int .i64 4, .int .u8 240, .int .u8 128, .int .u8 191, .int .u8 244, .int .u8 244, .int .i64 4, .int .u8 240, .int .u8 128, .int .u8 143]
def kval (i : Nat) : Value := .agg #[.int .u8 (kL i), .int .u8 (kM i), .int .i64 (kS i), .int .u8 (kK i), .int .u8 (kA i), .int .u8 (kB i)]
def kd (b : Nat) : Nat :=
 if b < 128 then 0 else if b < 194 then 9 else if b < 224 then 1 else if b = 224 then 2 else if b < 237 then 3 else if b = 237 then 4 else if b < 240 then 5 else if b = 240 then 6 else if b < 244 then 7 else if b = 244 then 8 else 9
theorem nine {M : Nat → Prop} (h0 : M 0) (h1 : M 1) (h2 : M 2) (h3 : M 3) (h4 : M 4) (h5 : M 5) (h6 : M 6) (h7 : M 7) (h8 : M 8) : ∀ i, i < 9 → M i := by
 intro i hi
 match i, hi with
 | 0, _ => exact h0
 | 1, _ => exact h1
 | 2, _ => exact h2
 | 3, _ => exact h3
 | 4, _ => exact h4
 | 5, _ => exact h5
 | 6, _ => exact h6
 | 7, _ => exact h7
 | 8, _ => exact h8
theorem kd_hit {b i : Nat} (hi : i < 9) (h1 : kL i ≤ b) (h2 : (b : Int) ≤ kM i) : kd b = i := by
 revert h1 h2
 refine nine (M := fun i => kL i ≤ b → (b : Int) ≤ kM i → kd b = i) ?_ ?_ ?_ ?_ ?_ ?_ ?_ ?_ ?_ i hi
 · intro h1 h2
   have k1 : (0 : Int) ≤ b := h1
   have k2 : (b : Int) ≤ 127 := h2
   clear h1 h2
   unfold kd
   rw [if_pos (by omega)]
 · intro h1 h2
   have k1 : (194 : Int) ≤ b := h1
   have k2 : (b : Int) ≤ 223 := h2
   clear h1 h2
   unfold kd
   rw [if_neg (by omega), if_neg (by omega), if_pos (by omega)]
 · intro h1 h2
   have k1 : (224 : Int) ≤ b := h1
   have k2 : (b : Int) ≤ 224 := h2
   clear h1 h2
   unfold kd
   rw [if_neg (by omega), if_neg (by omega), if_neg (by omega), if_pos (by omega)]
 · intro h1 h2
   have k1 : (225 : Int) ≤ b := h1
   have k2 : (b : Int) ≤ 236 := h2
   clear h1 h2
   unfold kd
   rw [if_neg (by omega), if_neg (by omega), if_neg (by omega), if_neg (by omega), if_pos (by omega)]
 · intro h1 h2
   have k1 : (237 : Int) ≤ b := h1
   have k2 : (b : Int) ≤ 237 := h2
   clear h1 h2
   unfold kd
   rw [if_neg (by omega), if_neg (by omega), if_neg (by omega), if_neg (by omega), if_neg (by omega), if_pos (by omega)]
 · intro h1 h2
   have k1 : (238 : Int) ≤ b := h1
   have k2 : (b : Int) ≤ 239 := h2
   clear h1 h2
   unfold kd
   rw [if_neg (by omega), if_neg (by omega), if_neg (by omega), if_neg (by omega), if_neg (by omega), if_neg (by omega), if_pos (by omega)]
 · intro h1 h2
   have k1 : (240 : Int) ≤ b := h1
   have k2 : (b : Int) ≤ 240 := h2
   clear h1 h2
   unfold kd
   rw [if_neg (by omega), if_neg (by omega), if_neg (by omega), if_neg (by omega), if_neg (by omega), if_neg (by omega), if_neg (by omega), if_pos (by omega)]
 · intro h1 h2
   have k1 : (241 : Int) ≤ b := h1
   have k2 : (b : Int) ≤ 243 := h2
   clear h1 h2
   unfold kd
   rw [if_neg (by omega), if_neg (by omega), if_neg (by omega), if_neg (by omega), if_neg (by omega), if_neg (by omega), if_neg (by omega), if_neg (by omega), if_pos (by omega)]
 · intro h1 h2
   have k1 : (244 : Int) ≤ b := h1
   have k2 : (b : Int) ≤ 244 := h2
   clear h1 h2
   unfold kd
   rw [if_neg (by omega), if_neg (by omega), if_neg (by omega), if_neg (by omega), if_neg (by omega), if_neg (by omega), if_neg (by omega), if_neg (by omega), if_neg (by omega), if_pos (by omega)]
theorem kd_none {b : Nat} (hb : b < 256) (h : ∀ j, j < 9 → ¬ (kL j ≤ b ∧ (b : Int) ≤ kM j)) : kd b = 9 := by
 have h0 : ¬ ((0 : Int) ≤ b ∧ (b : Int) ≤ 127) := h 0 (by omega)
 have h1 : ¬ ((194 : Int) ≤ b ∧ (b : Int) ≤ 223) := h 1 (by omega)
 have h2 : ¬ ((224 : Int) ≤ b ∧ (b : Int) ≤ 224) := h 2 (by omega)
 have h3 : ¬ ((225 : Int) ≤ b ∧ (b : Int) ≤ 236) := h 3 (by omega)
 have h4 : ¬ ((237 : Int) ≤ b ∧ (b : Int) ≤ 237) := h 4 (by omega)
 have h5 : ¬ ((238 : Int) ≤ b ∧ (b : Int) ≤ 239) := h 5 (by omega)
 have h6 : ¬ ((240 : Int) ≤ b ∧ (b : Int) ≤ 240) := h 6 (by omega)
 have h7 : ¬ ((241 : Int) ≤ b ∧ (b : Int) ≤ 243) := h 7 (by omega)
 have h8 : ¬ ((244 : Int) ≤ b ∧ (b : Int) ≤ 244) := h 8 (by omega)
 clear h
 unfold kd
 by_cases c : b < 194
 · rw [if_neg (by omega), if_pos c]
 · rw [if_neg (by omega), if_neg (by omega), if_neg (by omega), if_neg (by omega), if_neg (by omega), if_neg (by omega), if_neg (by omega), if_neg (by omega), if_neg (by omega), if_neg (by omega)]
def Laid (w : World) : Prop := ∃ t fr, w.heap[5]? = some (.cells kcells t fr)
theorem Laid.below {n : Nat} {w w' : World} (h : Laid w) (hB : Below n w w') (hn : 5 < n) : Laid w' := by
 obtain ⟨t, fr, e⟩ := h
 exact ⟨t, fr, (hB.block _ hn).trans e⟩
theorem Laid.lt {w : World} (h : Laid w) : 5 < w.heap.size := by
 obtain ⟨t, fr, e⟩ := h
 exact (Array.getElem?_eq_some_iff.1 e).1
theorem index_kinds (i : Nat) (hi : i < 9) : ∀ w, (Instr.index 227 (.agg kcells) (.int .i64 (i : Int))).run Tryz.prog w = .ok (kval i) w :=
 nine (M := fun i => ∀ w, (Instr.index 227 (.agg kcells) (.int .i64 (i : Int))).run Tryz.prog w = .ok (kval i) w)
   (fun _ => by kernel_rfl) (fun _ => by kernel_rfl) (fun _ => by kernel_rfl) (fun _ => by kernel_rfl) (fun _ => by kernel_rfl) (fun _ => by kernel_rfl) (fun _ => by kernel_rfl) (fun _ => by kernel_rfl) (fun _ => by kernel_rfl) i hi
set_option maxHeartbeats 1000000 in
theorem kindOf_any {w : World} {b : Nat} (hb : b < 256) (hl : Laid w) :
   Calls Tryz.prog 196 #[.int .u8 b] w fun e w' => e = .returned (kval (kd b)) ∧ Below w.heap.size w w' := by
 obtain ⟨t, fr, hg⟩ := hl
 have hlt : 5 < w.heap.size := (Array.getElem?_eq_some_iff.1 hg).1
 have hg1 : (w.alloc (.cells #[.int .u8 0, .int .u8 0, .int .i64 0, .int .u8 0, .int .u8 0, .int .u8 0] 211)).heap[5]? = some (.cells kcells t fr) := ((Below.heap_alloc _ _ _ hlt)).trans hg
 go_enter Tryz.func196, Tryz.ntmps196
 go_wp2_with (refine wpList_load_row rfl 227 _ rfl 5 rfl t _ fr _ hg1 Tryz.underlying227 rfl (by kernel_rfl) ?_)
 go_loopw [6] (fun i wr => ∃ k : Nat, k ≤ 9 ∧ i = .int .i64 k ∧ (∀ j, j < k → ¬ (kL j ≤ b ∧ (b : Int) ≤ kM j)) ∧
     wr.heap[w.heap.size]? = some (.cells #[.int .u8 0, .int .u8 0, .int .i64 0, .int .u8 0, .int .u8 0, .int .u8 0] 211 (0, 0)) ∧ Below w.heap.size w wr) (fun i _ => 9 - (intOf i).toNat)
 case atStart =>
   refine ⟨0, by omega, rfl, fun j hj => by omega, ?_, ?_⟩
   · exact World.alloc_heap_new w _
   · exact (Below.refl _ w).alloc (Nat.le_refl _) _
 case round =>
   obtain ⟨k, hk, rfl, hno, hB, hbel⟩ := hrel
   have c0 : wr.cell? ⟨w.heap.size, 0, none⟩ = some (.int .u8 0) := cell_of hB 0
   have c1 : wr.cell? ⟨w.heap.size, 1, none⟩ = some (.int .u8 0) := cell_of hB 1
   have c2 : wr.cell? ⟨w.heap.size, 2, none⟩ = some (.int .i64 0) := cell_of hB 2
   have c3 : wr.cell? ⟨w.heap.size, 3, none⟩ = some (.int .u8 0) := cell_of hB 3
   have c4 : wr.cell? ⟨w.heap.size, 4, none⟩ = some (.int .u8 0) := cell_of hB 4
   have c5 : wr.cell? ⟨w.heap.size, 5, none⟩ = some (.int .u8 0) := cell_of hB 5
   have hx := lt_of_heap hB
   have f0 := free_of hB 0
   have f1 := free_of hB 1
   have f2 := free_of hB 2
   have f3 := free_of hB 3
   have f4 := free_of hB 4
   have f5 := free_of hB 5
   by_cases h9 : k < 9
   · have hix := index_kinds k h9
     unfold kval at hix
     by_cases h1 : kL k ≤ b
     · by_cases h2 : (b : Int) ≤ kM k
       · have hk9 := kd_hit h9 h1 h2
         go_wp2_with fail
         refine bodyPost_ret (v := kval k) (results_cell_row (g := w.heap.size) (t := 211) (fr := (0, 0)) rfl _ _ _ _ rfl ?_ Tryz.underlying211 rfl (by kernel_rfl)) rfl ⟨?_, ?_⟩
         · exact new_of (set_of (set_of (set_of (set_of (set_of (set_of hB 0 _) 1 _) 2 _) 3 _) 4 _) 5 _) _
         · rw [hk9]
         · exact ((((((hbel.setCell (p := ⟨w.heap.size, 0, none⟩) (Nat.le_refl _) _).setCell (p := ⟨w.heap.size, 1, none⟩) (Nat.le_refl _) _).setCell (p := ⟨w.heap.size, 2, none⟩) (Nat.le_refl _) _).setCell (p := ⟨w.heap.size, 3, none⟩) (Nat.le_refl _) _).setCell (p := ⟨w.heap.size, 4, none⟩) (Nat.le_refl _) _).setCell (p := ⟨w.heap.size, 5, none⟩) (Nat.le_refl _) _).alloc (by simp; omega) _
       · go_wp2_with fail
         go_roundw
         case rel => exact ⟨k + 1, by omega, by go_num, fun j hj => (by rcases (show j < k ∨ j = k by omega) with h | rfl; exact hno j h; omega), new_of hB _, hbel.alloc (by omega) _⟩
         case measure => simp [intOf]; omega
     · go_wp2_with fail
       go_roundw
       case rel => exact ⟨k + 1, by omega, by go_num, fun j hj => (by rcases (show j < k ∨ j = k by omega) with h | rfl; exact hno j h; omega), new_of hB _, hbel.alloc (by omega) _⟩
       case measure => simp [intOf]; omega
   · obtain rfl : k = 9 := by omega
     have hk9 := kd_none hb hno
     go_wp2_with fail
     refine bodyPost_ret (v := kval 9) (results_cell_row (g := w.heap.size) (t := 211) (fr := (0, 0)) rfl _ _ _ _ rfl ?_ Tryz.underlying211 rfl (by kernel_rfl)) rfl ⟨?_, ?_⟩
     · exact set_of (set_of (set_of (set_of (set_of (set_of hB 0 _) 1 _) 2 _) 3 _) 4 _) 5 _
     · rw [hk9]
     · exact (((((hbel.setCell (p := ⟨w.heap.size, 0, none⟩) (Nat.le_refl _) _).setCell (p := ⟨w.heap.size, 1, none⟩) (Nat.le_refl _) _).setCell (p := ⟨w.heap.size, 2, none⟩) (Nat.le_refl _) _).setCell (p := ⟨w.heap.size, 3, none⟩) (Nat.le_refl _) _).setCell (p := ⟨w.heap.size, 4, none⟩) (Nat.le_refl _) _).setCell (p := ⟨w.heap.size, 5, none⟩) (Nat.le_refl _) _
end Go.Proofs.YtlfbnfphocpgeaaGreatDoor.Utf
