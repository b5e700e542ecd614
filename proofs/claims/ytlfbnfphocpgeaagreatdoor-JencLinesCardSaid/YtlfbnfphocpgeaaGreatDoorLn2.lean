/- A part of what lines_holds leans on (its texts, put together). Nothing is claimed here. -/
import Derived.WalkLawsBesides
import Derived.RangeFuncBox
import Derived.Lib.Hide
import Derived.WalkSpells
import Derived.Deep.QuietTactic
import Derived.BigQuiet
import Derived.RangeFuncNested
import Derived.RangeFuncBound
import Derived.RangeFuncCalls
import Derived.RangeFuncLeaves
import Derived.OwnWalkIn
import Derived.TacticsInMore
import Derived.LoopNIn
import Derived.LoopIn
import Derived.Shelf.Abstract
import Derived.Maps.AppendAt
import Derived.Shelf.RegionOpen
import Derived.Test.YtlfbnfphocpgeaaGreatDoorShelf
import Derived.Laws.IdiomStrings
import Derived.Deep.RegionWith
import Derived.Deep.RegionHeld3
import Derived.Deep.Cut
import Derived.Deep.CutRange
import Derived.Maps.OwnSet
import Derived.Test.YtlfbnfphocpgeaaGreatDoorLn1
namespace Go.Proofs.YtlfbnfphocpgeaaGreatDoor.Quo
open Go.RowKit Kit Txt Utf
/-- The reader in block R has l left. -/
def Rdr (R : Nat) (l : List UInt8) (w : World) : Prop := w.heap[R]? = some (.cells #[.string (txt l)] 126 (0, 0))
/-- What is thrown. -/
def thrown (k : Nat) : Ending := .panicked [{ v := .iface 33 (.int .i64 k), recovered := false }]
theorem Rdr.kept {R : Nat} {l : List UInt8} {w w' : World} {row : Option Nat} (h : Rdr R l w) (k : w.grownBy w' row) (hr : some R ≠ row) : Rdr R l w' := (k.block R (lt_of_heap h) hr).trans h
theorem Rdr.below {R : Nat} {l : List UInt8} {w w' : World} {B : Nat} (h : Rdr R l w) (k : Below B w w') (hr : R < B) : Rdr R l w' := (k.block R hr).trans h
theorem grownBy.trans {a b c : World} {row : Option Nat} (h : a.grownBy b row) (k : b.grownBy c row) : a.grownBy c row :=
  ⟨k.os.trans h.os, k.tape.trans h.tape, k.output.trans h.output, Nat.le_trans h.size k.size, fun i hi hr => (k.block i (Nat.lt_of_lt_of_le hi h.size) hr).trans (h.block i hi hr)⟩
/-- What a method of the reader tells: a value, and what is left behind it; or it throws. -/
def Takes (R : Nat) (w : World) (k : Nat) (v : Value) (rest : List UInt8) (e : Ending) (w' : World) : Prop := w.grownBy w' (some R) ∧ ((k = 0 ∧ e = .returned v ∧ Rdr R rest w') ∨ (k ≠ 0 ∧ e = thrown k))
theorem Takes.mk {R : Nat} {w : World} {v : Value} {rest : List UInt8} {w' : World} (h : Rdr R rest w') (g : w.grownBy w' (some R)) : Takes R w 0 v rest (.returned v) w' := ⟨g, .inl ⟨rfl, rfl, h⟩⟩
theorem Takes.no {R : Nat} {w : World} {k : Nat} {v : Value} {rest : List UInt8} {w' : World} (h : k ≠ 0) (g : w.grownBy w' (some R)) : Takes R w k v rest (thrown k) w' := ⟨g, .inr ⟨h, rfl⟩⟩
end Go.Proofs.YtlfbnfphocpgeaaGreatDoor.Quo
namespace Go.Proofs.YtlfbnfphocpgeaaGreatDoor.Utf
open Go.RowKit Kit

/-! ### The table -/
def kL : Nat → Int
  | 0 => 0
  | 1 => 194
  | 2 => 224
  | 3 => 225
  | 4 => 237
  | 5 => 238
  | 6 => 240
  | 7 => 241
  | 8 => 244
  | _ => 0
def kM : Nat → Int
  | 0 => 127
  | 1 => 223
  | 2 => 224
  | 3 => 236
  | 4 => 237
  | 5 => 239
  | 6 => 240
  | 7 => 243
  | 8 => 244
  | _ => 0
def kS : Nat → Int
  | 0 => 1
  | 1 => 2
  | 2 => 3
  | 3 => 3
  | 4 => 3
  | 5 => 3
  | 6 => 4
  | 7 => 4
  | 8 => 4
  | _ => 0
def kK : Nat → Int
  | 0 => 0
  | 1 => 192
  | 2 => 224
  | 3 => 224
  | 4 => 224
  | 5 => 224
  | 6 => 240
  | 7 => 240
  | 8 => 240
  | _ => 0
def kA : Nat → Int
  | 0 => 0
  | 1 => 128
  | 2 => 160
  | 3 => 128
  | 4 => 128
  | 5 => 128
  | 6 => 144
  | 7 => 128
  | 8 => 128
  | _ => 0
def kB : Nat → Int
  | 0 => 0
  | 1 => 191
  | 2 => 191
  | 3 => 191
  | 4 => 159
  | 5 => 191
  | 6 => 191
  | 7 => 191
  | 8 => 143
  | _ => 0
def kcells : Array Value := #[.int .u8 0, .int .u8 127, .int .i64 1, .int .u8 0, .int .u8 0, .int .u8 0, .int .u8 194, .int .u8 223, .int .i64 2, .int .u8 192, .int .u8 128, .int .u8 191, .int .u8 224, .int .u8 224, .int .i64 3, .int .u8 224, .int .u8 160, .int .u8 191, .int .u8 225, .int .u8 236, .int .i64 3, .int .u8 224, .int .u8 128, .int .u8 191, .int .u8 237, .int .u8 237, .int .i64 3, .int .u8 224, .int .u8 128, .int .u8 159, .int .u8 238, .int .u8 239, .int .i64 3, .int .u8 224, .int .u8 128, .int .u8 191, .int .u8 240, .int .u8 240, .int .i64 4, .int .u8 240, .int .u8 144, .int .u8 191, .int .u8 241, .int .u8 243, .int .i64 4, .int .u8 240, .int .u8 128, .int .u8 191, .int .u8 244, .int .u8 244, .int .i64 4, .int .u8 240, .int .u8 128, .int .u8 143]
/-- The i-th row of the table, as a struct; the tenth: no row, all zero. -/
def kval (i : Nat) : Value := .agg #[.int .u8 (kL i), .int .u8 (kM i), .int .i64 (kS i), .int .u8 (kK i), .int .u8 (kA i), .int .u8 (kB i)]
/-- The row that a first byte belongs to. -/
def kd (b : Nat) : Nat :=
  if b < 128 then 0 else if b < 194 then 9 else if b < 224 then 1 else if b = 224 then 2 else if b < 237 then 3 else if b = 237 then 4 else if b < 240 then 5 else if b = 240 then 6 else if b < 244 then 7 else if b = 244 then 8 else 9
theorem nine {M : Nat → Prop} (h0 : M 0) (h1 : M 1) (h2 : M 2) (h3 : M 3) (h4 : M 4) (h5 : M 5) (h6 : M 6) (h7 : M 7) (h8 : M 8) : ∀ i, i < 9 → M i := by
  intro i hi
  match i, hi with
  | 0, _ => exact h0
  | 1, _ => exact h1
  | 2, _ => exact h2
  | 3, _ => exact h3
  | 4, _ => exact h4
  | 5, _ => exact h5
  | 6, _ => exact h6
  | 7, _ => exact h7
  | 8, _ => exact h8
theorem kd_hit {b i : Nat} (hi : i < 9) (h1 : kL i ≤ b) (h2 : (b : Int) ≤ kM i) : kd b = i := by
  revert h1 h2
  refine nine (M := fun i => kL i ≤ b → (b : Int) ≤ kM i → kd b = i) ?_ ?_ ?_ ?_ ?_ ?_ ?_ ?_ ?_ i hi
  · intro h1 h2
    have k1 : (0 : Int) ≤ b := h1
    have k2 : (b : Int) ≤ 127 := h2
    clear h1 h2
    unfold kd
    rw [if_pos (by omega)]
  · intro h1 h2
    have k1 : (194 : Int) ≤ b := h1
    have k2 : (b : Int) ≤ 223 := h2
    clear h1 h2
    unfold kd
    rw [if_neg (by omega), if_neg (by omega), if_pos (by omega)]
  · intro h1 h2
    have k1 : (224 : Int) ≤ b := h1
    have k2 : (b : Int) ≤ 224 := h2
    clear h1 h2
    unfold kd
    rw [if_neg (by omega), if_neg (by omega), if_neg (by omega), if_pos (by omega)]
  · intro h1 h2
    have k1 : (225 : Int) ≤ b := h1
    have k2 : (b : Int) ≤ 236 := h2
    clear h1 h2
    unfold kd
    rw [if_neg (by omega), if_neg (by omega), if_neg (by omega), if_neg (by omega), if_pos (by omega)]
  · intro h1 h2
    have k1 : (237 : Int) ≤ b := h1
    have k2 : (b : Int) ≤ 237 := h2
    clear h1 h2
    unfold kd
    rw [if_neg (by omega), if_neg (by omega), if_neg (by omega), if_neg (by omega), if_neg (by omega), if_pos (by omega)]
  · intro h1 h2
    have k1 : (238 : Int) ≤ b := h1
    have k2 : (b : Int) ≤ 239 := h2
    clear h1 h2
    unfold kd
    rw [if_neg (by omega), if_neg (by omega), if_neg (by omega), if_neg (by omega), if_neg (by omega), if_neg (by omega), if_pos (by omega)]
  · intro h1 h2
    have k1 : (240 : Int) ≤ b := h1
    have k2 : (b : Int) ≤ 240 := h2
    clear h1 h2
    unfold kd
    rw [if_neg (by omega), if_neg (by omega), if_neg (by omega), if_neg (by omega), if_neg (by omega), if_neg (by omega), if_neg (by omega), if_pos (by omega)]
  · intro h1 h2
    have k1 : (241 : Int) ≤ b := h1
    have k2 : (b : Int) ≤ 243 := h2
    clear h1 h2
    unfold kd
    rw [if_neg (by omega), if_neg (by omega), if_neg (by omega), if_neg (by omega), if_neg (by omega), if_neg (by omega), if_neg (by omega), if_neg (by omega), if_pos (by omega)]
  · intro h1 h2
    have k1 : (244 : Int) ≤ b := h1
    have k2 : (b : Int) ≤ 244 := h2
    clear h1 h2
    unfold kd
    rw [if_neg (by omega), if_neg (by omega), if_neg (by omega), if_neg (by omega), if_neg (by omega), if_neg (by omega), if_neg (by omega), if_neg (by omega), if_neg (by omega), if_pos (by omega)]
theorem kd_none {b : Nat} (hb : b < 256) (h : ∀ j, j < 9 → ¬ (kL j ≤ b ∧ (b : Int) ≤ kM j)) : kd b = 9 := by
  have h0 : ¬ ((0 : Int) ≤ b ∧ (b : Int) ≤ 127) := h 0 (by omega)
  have h1 : ¬ ((194 : Int) ≤ b ∧ (b : Int) ≤ 223) := h 1 (by omega)
  have h2 : ¬ ((224 : Int) ≤ b ∧ (b : Int) ≤ 224) := h 2 (by omega)
  have h3 : ¬ ((225 : Int) ≤ b ∧ (b : Int) ≤ 236) := h 3 (by omega)
  have h4 : ¬ ((237 : Int) ≤ b ∧ (b : Int) ≤ 237) := h 4 (by omega)
  have h5 : ¬ ((238 : Int) ≤ b ∧ (b : Int) ≤ 239) := h 5 (by omega)
  have h6 : ¬ ((240 : Int) ≤ b ∧ (b : Int) ≤ 240) := h 6 (by omega)
  have h7 : ¬ ((241 : Int) ≤ b ∧ (b : Int) ≤ 243) := h 7 (by omega)
  have h8 : ¬ ((244 : Int) ≤ b ∧ (b : Int) ≤ 244) := h 8 (by omega)
  clear h
  unfold kd
  by_cases c : b < 194
  · rw [if_neg (by omega), if_pos c]
  · rw [if_neg (by omega), if_neg (by omega), if_neg (by omega), if_neg (by omega), if_neg (by omega), if_neg (by omega), if_neg (by omega), if_neg (by omega), if_neg (by omega), if_neg (by omega)]
/-- The table lies in its variable. -/
def Laid (w : World) : Prop := ∃ t fr, w.heap[5]? = some (.cells kcells t fr)
theorem Laid.below {n : Nat} {w w' : World} (h : Laid w) (hB : Below n w w') (hn : 5 < n) : Laid w' := by
  obtain ⟨t, fr, e⟩ := h
  exact ⟨t, fr, (hB.block _ hn).trans e⟩
theorem Laid.lt {w : World} (h : Laid w) : 5 < w.heap.size := by
  obtain ⟨t, fr, e⟩ := h
  exact (Array.getElem?_eq_some_iff.1 e).1
theorem index_kinds (i : Nat) (hi : i < 9) : ∀ w, (Instr.index 227 (.agg kcells) (.int .i64 (i : Int))).run Tryz.prog w = .ok (kval i) w :=
  nine (M := fun i => ∀ w, (Instr.index 227 (.agg kcells) (.int .i64 (i : Int))).run Tryz.prog w = .ok (kval i) w)
    (fun _ => by kernel_rfl) (fun _ => by kernel_rfl) (fun _ => by kernel_rfl) (fun _ => by kernel_rfl) (fun _ => by kernel_rfl) (fun _ => by kernel_rfl) (fun _ => by kernel_rfl) (fun _ => by kernel_rfl) (fun _ => by kernel_rfl) i hi
set_option maxHeartbeats 1000000 in
theorem kindOf_any {w : World} {b : Nat} (hb : b < 256) (hl : Laid w) :
    Calls Tryz.prog 196 #[.int .u8 b] w fun e w' => e = .returned (kval (kd b)) ∧ Below w.heap.size w w' := by
  obtain ⟨t, fr, hg⟩ := hl
  have hlt : 5 < w.heap.size := (Array.getElem?_eq_some_iff.1 hg).1
  have hg1 : (w.alloc (.cells #[.int .u8 0, .int .u8 0, .int .i64 0, .int .u8 0, .int .u8 0, .int .u8 0] 211)).heap[5]? = some (.cells kcells t fr) := ((Below.heap_alloc _ _ _ hlt)).trans hg
  go_enter Tryz.func196, Tryz.ntmps196
  go_wp2_with (refine wpList_load_row rfl 227 _ rfl 5 rfl t _ fr _ hg1 Tryz.underlying227 rfl (by kernel_rfl) ?_)
  go_loopw [6] (fun i wr => ∃ k : Nat, k ≤ 9 ∧ i = .int .i64 k ∧ (∀ j, j < k → ¬ (kL j ≤ b ∧ (b : Int) ≤ kM j)) ∧
      wr.heap[w.heap.size]? = some (.cells #[.int .u8 0, .int .u8 0, .int .i64 0, .int .u8 0, .int .u8 0, .int .u8 0] 211 (0, 0)) ∧ Below w.heap.size w wr) (fun i _ => 9 - (intOf i).toNat)
  case atStart =>
    refine ⟨0, by omega, rfl, fun j hj => by omega, ?_, ?_⟩
    · exact World.alloc_heap_new w _
    · exact (Below.refl _ w).alloc (Nat.le_refl _) _
  case round =>
    obtain ⟨k, hk, rfl, hno, hB, hbel⟩ := hrel
    have c0 : wr.cell? ⟨w.heap.size, 0, none⟩ = some (.int .u8 0) := cell_of hB 0
    have c1 : wr.cell? ⟨w.heap.size, 1, none⟩ = some (.int .u8 0) := cell_of hB 1
    have c2 : wr.cell? ⟨w.heap.size, 2, none⟩ = some (.int .i64 0) := cell_of hB 2
    have c3 : wr.cell? ⟨w.heap.size, 3, none⟩ = some (.int .u8 0) := cell_of hB 3
    have c4 : wr.cell? ⟨w.heap.size, 4, none⟩ = some (.int .u8 0) := cell_of hB 4
    have c5 : wr.cell? ⟨w.heap.size, 5, none⟩ = some (.int .u8 0) := cell_of hB 5
    have hx := lt_of_heap hB
    have f0 := free_of hB 0
    have f1 := free_of hB 1
    have f2 := free_of hB 2
    have f3 := free_of hB 3
    have f4 := free_of hB 4
    have f5 := free_of hB 5
    by_cases h9 : k < 9
    · have hix := index_kinds k h9
      unfold kval at hix
      by_cases h1 : kL k ≤ b
      · by_cases h2 : (b : Int) ≤ kM k
        · have hk9 := kd_hit h9 h1 h2
          go_wp2_with fail
          refine bodyPost_ret (v := kval k) (results_cell_row (g := w.heap.size) (t := 211) (fr := (0, 0)) rfl _ _ _ _ rfl ?_ Tryz.underlying211 rfl (by kernel_rfl)) rfl ⟨?_, ?_⟩
          · exact new_of (set_of (set_of (set_of (set_of (set_of (set_of hB 0 _) 1 _) 2 _) 3 _) 4 _) 5 _) _
          · rw [hk9]
          · exact ((((((hbel.setCell (p := ⟨w.heap.size, 0, none⟩) (Nat.le_refl _) _).setCell (p := ⟨w.heap.size, 1, none⟩) (Nat.le_refl _) _).setCell (p := ⟨w.heap.size, 2, none⟩) (Nat.le_refl _) _).setCell (p := ⟨w.heap.size, 3, none⟩) (Nat.le_refl _) _).setCell (p := ⟨w.heap.size, 4, none⟩) (Nat.le_refl _) _).setCell (p := ⟨w.heap.size, 5, none⟩) (Nat.le_refl _) _).alloc (by simp; omega) _
        · go_wp2_with fail
          go_roundw
          case rel => exact ⟨k + 1, by omega, by go_num, fun j hj => (by rcases (show j < k ∨ j = k by omega) with h | rfl; exact hno j h; omega), new_of hB _, hbel.alloc (by omega) _⟩
          case measure => simp [intOf]; omega
      · go_wp2_with fail
        go_roundw
        case rel => exact ⟨k + 1, by omega, by go_num, fun j hj => (by rcases (show j < k ∨ j = k by omega) with h | rfl; exact hno j h; omega), new_of hB _, hbel.alloc (by omega) _⟩
        case measure => simp [intOf]; omega
    · obtain rfl : k = 9 := by omega
      have hk9 := kd_none hb hno
      go_wp2_with fail
      refine bodyPost_ret (v := kval 9) (results_cell_row (g := w.heap.size) (t := 211) (fr := (0, 0)) rfl _ _ _ _ rfl ?_ Tryz.underlying211 rfl (by kernel_rfl)) rfl ⟨?_, ?_⟩
      · exact set_of (set_of (set_of (set_of (set_of (set_of hB 0 _) 1 _) 2 _) 3 _) 4 _) 5 _
      · rw [hk9]
      · exact (((((hbel.setCell (p := ⟨w.heap.size, 0, none⟩) (Nat.le_refl _) _).setCell (p := ⟨w.heap.size, 1, none⟩) (Nat.le_refl _) _).setCell (p := ⟨w.heap.size, 2, none⟩) (Nat.le_refl _) _).setCell (p := ⟨w.heap.size, 3, none⟩) (Nat.le_refl _) _).setCell (p := ⟨w.heap.size, 4, none⟩) (Nat.le_refl _) _).setCell (p := ⟨w.heap.size, 5, none⟩) (Nat.le_refl _) _
end Go.Proofs.YtlfbnfphocpgeaaGreatDoor.Utf
namespace Go.Proofs.YtlfbnfphocpgeaaGreatDoor.Utf
open Go.RowKit Kit
/-- What has been put together in front of the i-th byte. -/
def acc (l : List UInt8) (m : Nat) : Nat → Nat
  | 0 => 0
  | 1 => nb l 0 - m
  | i + 2 => acc l m (i + 1) * 64 + nb l (i + 1) % 64
theorem acc_lt (l : List UInt8) (m : Nat) : ∀ i, acc l m (i + 1) < 256 * 64 ^ i
  | 0 => by have := nb_lt l 0; simp [acc]; omega
  | i + 1 => by
    have := acc_lt l m i
    simp only [acc, Nat.pow_succ]
    omega
/-- decode's answer, told by the first byte's row: size z, mark m, the second byte from a to b. -/
def decS (l : List UInt8) (z m a b : Nat) : Nat × Nat :=
  if z = 0 ∨ l.length < z then (0, 0)
  else if 1 < z ∧ (nb l 1 < a ∨ b < nb l 1) then (0, 0)
  else if ∃ i, i < z ∧ 1 ≤ i ∧ nb l i / 64 ≠ 2 then (0, 0)
  else (acc l m z, z)
theorem and192 : ∀ x : Nat, x < 256 → bits .and .u8 (x : Int) 192 = (((x / 64 : Nat) * 64 : Nat) : Int) := by decide +kernel
theorem and63 : ∀ x : Nat, x < 256 → bits .and .u8 (x : Int) 63 = ((x % 64 : Nat) : Int) := by decide +kernel
theorem or_low (c x : Nat) (hc : c < 1099511627776) : bits .or .i64 ((c : Int) * 64) ((x : Int) % 64) = ((c * 64 + x % 64 : Nat) : Int) := by
  have e1 : (c : Int) * 64 = ((c * 64 : Nat) : Int) := by omega
  have e2 : (x : Int) % 64 = ((x % 64 : Nat) : Int) := by omega
  rw [e1, e2]
  have h1 : (BitVec.ofInt 64 ((c * 64 : Nat) : Int)).toNat = c * 64 := by
    rw [BitVec.ofInt_natCast, BitVec.toNat_ofNat]; exact Nat.mod_eq_of_lt (by omega)
  have h2 : (BitVec.ofInt 64 ((x % 64 : Nat) : Int)).toNat = x % 64 := by
    rw [BitVec.ofInt_natCast, BitVec.toNat_ofNat]; exact Nat.mod_eq_of_lt (by omega)
  have h3 : c * 64 ||| x % 64 = c * 64 + x % 64 := by
    have := Nat.shiftLeft_add_eq_or_of_lt (b := x % 64) (i := 6) (by omega) c
    rw [Nat.shiftLeft_eq] at this
    exact this.symm
  show IntKind.i64.wrap ((BitVec.ofInt 64 ((c * 64 : Nat) : Int) ||| BitVec.ofInt 64 ((x % 64 : Nat) : Int)).toNat : Int) = _
  rw [BitVec.toNat_or, h1, h2, h3]
  simp only [IntKind.wrap, IntKind.signed, IntKind.bits]
  simp
  omega
theorem decS_cut {l : List UInt8} {z m a b k : Nat} (hz : ¬ (z = 0 ∨ l.length < z)) (h2 : ¬ (1 < z ∧ (nb l 1 < a ∨ b < nb l 1))) (h1 : 1 ≤ k) (hk : k < z) (ct : ¬ nb l k / 64 = 2) : decS l z m a b = (0, 0) := by
  unfold decS
  rw [if_neg hz, if_neg h2, if_pos ⟨k, hk, h1, ct⟩]
theorem decS_ok {l : List UInt8} {z m a b : Nat} (hz : ¬ (z = 0 ∨ l.length < z)) (h2 : ¬ (1 < z ∧ (nb l 1 < a ∨ b < nb l 1))) (h : ∀ j, 1 ≤ j → j < z → nb l j / 64 = 2) : decS l z m a b = (acc l m z, z) := by
  unfold decS
  rw [if_neg hz, if_neg h2, if_neg (fun ⟨i, i1, i2, i3⟩ => i3 (h i i2 i1))]
theorem acc_step {l : List UInt8} {m k : Nat} (hk : 1 ≤ k) (hb : acc l m k < 1099511627776) :
    Value.int .i64 (bits .or .i64 ((acc l m k : Int) * 64) ((nb l k : Int) % 64)) = .int .i64 (acc l m (k + 1)) := by
  match k, hk, hb with
  | k + 1, _, hb => rw [or_low _ _ hb]; rfl
set_option maxHeartbeats 4000000 in
theorem decode_walk {w : World} {s : ByteArray} {L M : Int} {z m a b : Nat} (hs : 0 < s.size) (hz : z ≤ 4) (hm : m ≤ nb s.data.toList 0)
    (hk : Calls Tryz.prog 196 #[.int .u8 (nb s.data.toList 0)] w fun e w' => e = .returned (.agg #[.int .u8 L, .int .u8 M, .int .i64 z, .int .u8 m, .int .u8 a, .int .u8 b]) ∧ Below w.heap.size w w') :
    Calls Tryz.prog 170 #[.string s] w fun e w' => e = .returned (.tuple #[.int .i64 (decS s.data.toList z m a b).1, .int .i64 (decS s.data.toList z m a b).2]) ∧ Below w.heap.size w w' := by
  have h0 : (0 : Int) < (s.size : Int) := by omega
  have hx0 := at_nb s 0 hs
  have hlen : s.data.toList.length = s.size := by simp
  by_cases c0 : z = 0
  · have e : decS s.data.toList z m a b = (0, 0) := by unfold decS; rw [if_pos (.inl c0)]
    rw [e]
    subst c0
    go_enter Tryz.func170, Tryz.ntmps170
    go_wp2_with fail
    refine hk.mono ?_
    rintro e w1 ⟨rfl, b1⟩
    go_wp2_with fail
    go_ret2
    exact ⟨rfl, b1.alloc b1.size _⟩
  by_cases c1 : s.size < z
  · have e : decS s.data.toList z m a b = (0, 0) := by unfold decS; rw [if_pos (.inr (by omega))]
    rw [e]
    go_enter Tryz.func170, Tryz.ntmps170
    go_wp2_with fail
    refine hk.mono ?_
    rintro e w1 ⟨rfl, b1⟩
    go_wp2_with fail
    go_ret2
    exact ⟨rfl, b1.alloc b1.size _⟩
  by_cases c2 : 1 < z ∧ (nb s.data.toList 1 < a ∨ b < nb s.data.toList 1)
  · have e : decS s.data.toList z m a b = (0, 0) := by unfold decS; rw [if_neg (by omega), if_pos c2]
    rw [e]
    obtain ⟨z1, c3⟩ := c2
    have hx1 := at_nb s 1 (by omega)
    have h1 : (1 : Int) < (s.size : Int) := by omega
    have z1' : (1 : Int) < (z : Int) := by omega
    by_cases c4 : nb s.data.toList 1 < a
    · have c4' : (nb s.data.toList 1 : Int) < (a : Int) := by omega
      clear c3
      go_enter Tryz.func170, Tryz.ntmps170
      go_wp2_with fail
      refine hk.mono ?_
      rintro e w1 ⟨rfl, b1⟩
      go_wp2_with fail
      go_quiet (fail)
      go_wp2_with fail
      go_ret2
      exact ⟨rfl, below_drewN (b1.alloc b1.size _) _⟩
    · have c5 : (b : Int) < (nb s.data.toList 1 : Int) := by omega
      have c6 : decide ((nb s.data.toList 1 : Int) < a) = false := by simp; omega
      clear c3
      go_enter Tryz.func170, Tryz.ntmps170
      go_wp2_with fail
      refine hk.mono ?_
      rintro e w1 ⟨rfl, b1⟩
      go_wp2_with fail
      go_quiet (fail)
      go_wp2_with fail
      go_ret2
      exact ⟨rfl, below_drewN (b1.alloc b1.size _) _⟩
  have key : z = 1 ∨ (1 < z ∧ a ≤ nb s.data.toList 1 ∧ nb s.data.toList 1 ≤ b) := by omega
  rcases key with c3 | ⟨z1, c3, c4⟩
  · subst c3
    have e : decS s.data.toList 1 m a b = (nb s.data.toList 0 - m, 1) := by unfold decS; rw [if_neg (by omega), if_neg (by omega), if_neg (fun ⟨i, h1, h2, _⟩ => by omega)]; rfl
    rw [e]
    go_enter Tryz.func170, Tryz.ntmps170
    go_wp2_with fail
    refine hk.mono ?_
    rintro e w1 ⟨rfl, b1⟩
    go_wp2_with fail
    go_quiet (fail)
    go_wp2_with fail
    go_quiet (fail)
    go_wp2_with fail
    go_loopw [2, 5] (fun c i wr => ∃ k : Nat, 1 ≤ k ∧ k ≤ 1 ∧ c = .int .i64 (acc s.data.toList m k) ∧ i = .int .i64 k ∧ (∀ j, 1 ≤ j → j < k → nb s.data.toList j / 64 = 2) ∧
        wr.heap[w1.heap.size]? = some (.cells #[.int .u8 L, .int .u8 M, .int .i64 1, .int .u8 m, .int .u8 a, .int .u8 b] 211 (0, 0)) ∧ Below w.heap.size w wr) (fun _ i _ => 1 - (intOf i).toNat)
    case atStart =>
      refine ⟨1, by omega, by omega, ?_, rfl, fun j h1 h2 => by omega, World.alloc_heap_new w1 _, below_drewN (below_drewN (b1.alloc b1.size _) _) _⟩
      have := nb_lt s.data.toList 0
      simp only [acc, Value.int.injEq, true_and]
      omega
    case round =>
      obtain ⟨k, hk1, hkz, rfl, rfl, hcts, hB, hbel⟩ := hrel
      obtain rfl : k = 1 := by omega
      have c2 : wr.cell? ⟨w1.heap.size, 2, none⟩ = some (.int .i64 1) := cell_of hB 2
      go_wp2_with fail
      go_quiet (fail)
      go_wp2_with fail
      go_ret2
      exact ⟨rfl, below_drewN hbel _⟩
  · have hx1 := at_nb s 1 (by omega)
    have h1 : (1 : Int) < (s.size : Int) := by omega
    have c6 : decide ((nb s.data.toList 1 : Int) < a) = false := by simp; omega
    have c7 : decide ((b : Int) < nb s.data.toList 1) = false := by simp; omega
    have z1' : (1 : Int) < (z : Int) := by omega
    go_enter Tryz.func170, Tryz.ntmps170
    go_wp2_with fail
    refine hk.mono ?_
    rintro e w1 ⟨rfl, b1⟩
    go_wp2_with fail
    go_quiet (fail)
    go_wp2_with fail
    go_quiet (fail)
    go_wp2_with fail
    go_loopw [2, 5] (fun c i wr => ∃ k : Nat, 1 ≤ k ∧ k ≤ z ∧ c = .int .i64 (acc s.data.toList m k) ∧ i = .int .i64 k ∧ (∀ j, 1 ≤ j → j < k → nb s.data.toList j / 64 = 2) ∧
        wr.heap[w1.heap.size]? = some (.cells #[.int .u8 L, .int .u8 M, .int .i64 (z : Int), .int .u8 m, .int .u8 a, .int .u8 b] 211 (0, 0)) ∧ Below w.heap.size w wr) (fun _ i _ => z - (intOf i).toNat)
    case atStart =>
      refine ⟨1, by omega, by omega, ?_, rfl, fun j h1 h2 => by omega, World.alloc_heap_new w1 _, below_drewN (below_drewN (b1.alloc b1.size _) _) _⟩
      have := nb_lt s.data.toList 0
      simp only [acc, Value.int.injEq, true_and]
      omega
    case round =>
      obtain ⟨k, hk1, hkz, rfl, rfl, hcts, hB, hbel⟩ := hrel
      have c2 : wr.cell? ⟨w1.heap.size, 2, none⟩ = some (.int .i64 (z : Int)) := cell_of hB 2
      have hx := lt_of_heap hB
      by_cases hlt : k < z
      · have hxk := at_nb s k (by omega)
        have hks : (k : Int) < (s.size : Int) := by omega
        have hlt' : (k : Int) < (z : Int) := by omega
        have e2 := and63 _ (nb_lt s.data.toList k)
        by_cases ct : nb s.data.toList k / 64 = 2
        · have e1 : bits .and .u8 (nb s.data.toList k : Int) 192 = 128 := by rw [and192 _ (nb_lt _ _), ct]; rfl
          have hb4 : acc s.data.toList m k < 1099511627776 := by
            have h3 : k - 1 + 1 = k := by omega
            have h4 := acc_lt s.data.toList m (k - 1)
            rw [h3] at h4
            have h5 : 64 ^ (k - 1) ≤ 64 ^ 3 := Nat.pow_le_pow_right (by omega) (by omega)
            omega
          go_wp2_with fail
          go_roundw
          case rel =>
            refine ⟨k + 1, by omega, by omega, ?_, by go_num, fun j j1 j2 => ?_, hB, hbel⟩
            · exact acc_step hk1 hb4
            · rcases (show j < k ∨ j = k by omega) with h | rfl
              · exact hcts j j1 h
              · exact ct
          case measure => simp [intOf]; omega
        · obtain ⟨y, e1, hy⟩ : ∃ y : Int, bits .and .u8 (nb s.data.toList k : Int) 192 = y ∧ ¬ y = 128 := ⟨_, and192 _ (nb_lt _ _), by omega⟩
          go_wp2_with fail
          go_ret2
          exact ⟨by rw [decS_cut (by omega) (by omega) hk1 hlt ct]; rfl, hbel⟩
      · have hkz' : (k : Int) = (z : Int) := by omega
        have e : decS s.data.toList z m a b = (acc s.data.toList m k, k) := by
          rw [decS_ok (by omega) (by omega) (fun j h1 h2 => hcts j h1 (by omega)), show z = k by omega]
        have hge : decide ((k : Int) < (z : Int)) = false := by simp; omega
        go_wp2_with fail
        go_quiet (fail)
        go_wp2_with fail
        go_ret2
        exact ⟨by rw [e, ← hkz']; rfl, below_drewN hbel _⟩
theorem kd_cases {x : Nat} (hx : x < 256) :
    (x < 128 ∧ kd x = 0) ∨ (128 ≤ x ∧ (x < 194 ∨ 244 < x) ∧ kd x = 9) ∨ (194 ≤ x ∧ x < 224 ∧ kd x = 1) ∨ (x = 224 ∧ kd x = 2) ∨ (225 ≤ x ∧ x < 237 ∧ kd x = 3) ∨ (x = 237 ∧ kd x = 4) ∨
    (238 ≤ x ∧ x < 240 ∧ kd x = 5) ∨ (x = 240 ∧ kd x = 6) ∨ (241 ≤ x ∧ x < 244 ∧ kd x = 7) ∨ (x = 244 ∧ kd x = 8) := by
  revert x
  decide +kernel
/-- What a row asks of the bytes. -/
def RowOk (l : List UInt8) (z a b : Nat) : Prop := z ≤ l.length ∧ (1 < z → a ≤ nb l 1 ∧ nb l 1 ≤ b) ∧ ∀ j, 1 ≤ j → j < z → nb l j / 64 = 2
theorem decS_yes {l : List UInt8} {z m a b : Nat} (hz : z ≠ 0) (h : RowOk l z a b) : decS l z m a b = (acc l m z, z) := by
  obtain ⟨h1, h2, h3⟩ := h
  exact decS_ok (by omega) (by omega) h3
theorem decS_no {l : List UInt8} {z m a b : Nat} (h : ¬ RowOk l z a b) : decS l z m a b = (0, 0) := by
  unfold decS
  by_cases c1 : z = 0 ∨ l.length < z
  · rw [if_pos c1]
  by_cases c2 : 1 < z ∧ (nb l 1 < a ∨ b < nb l 1)
  · rw [if_neg c1, if_pos c2]
  by_cases c3 : ∃ i, i < z ∧ 1 ≤ i ∧ nb l i / 64 ≠ 2
  · rw [if_neg c1, if_neg c2, if_pos c3]
  · exact absurd ⟨by omega, by omega, fun j h1 h2 => by
      by_cases e : nb l j / 64 = 2
      · exact e
      · exact absurd ⟨j, h2, h1, e⟩ c3⟩ h
theorem upto2 {M : Nat → Prop} : (∀ j, 1 ≤ j → j < 2 → M j) ↔ M 1 := ⟨fun h => h 1 (by omega) (by omega), fun h j h1 h2 => by
  obtain rfl : j = 1 := by omega
  exact h⟩
theorem upto3 {M : Nat → Prop} : (∀ j, 1 ≤ j → j < 3 → M j) ↔ M 1 ∧ M 2 := ⟨fun h => ⟨h 1 (by omega) (by omega), h 2 (by omega) (by omega)⟩, fun h j h1 h2 => by
  rcases (show j = 1 ∨ j = 2 by omega) with rfl | rfl
  · exact h.1
  · exact h.2⟩
theorem upto4 {M : Nat → Prop} : (∀ j, 1 ≤ j → j < 4 → M j) ↔ M 1 ∧ M 2 ∧ M 3 := ⟨fun h => ⟨h 1 (by omega) (by omega), h 2 (by omega) (by omega), h 3 (by omega) (by omega)⟩, fun h j h1 h2 => by
  rcases (show j = 1 ∨ j = 2 ∨ j = 3 by omega) with rfl | rfl | rfl
  · exact h.1
  · exact h.2.1
  · exact h.2.2⟩
/-- The rows' numbers, and what decode answers by them: the scalar. -/
theorem dec_one (l : List UInt8) (hl : 0 < l.length) : ∃ z m a b : Nat, kval (kd (nb l 0)) = .agg #[.int .u8 (kL (kd (nb l 0))), .int .u8 (kM (kd (nb l 0))), .int .i64 z, .int .u8 m, .int .u8 a, .int .u8 b] ∧ z ≤ 4 ∧ m ≤ nb l 0 ∧ decS l z m a b = one l := by
  have b0 := nb_lt l 0
  have b1 := nb_lt l 1
  have b2 := nb_lt l 2
  have b3 := nb_lt l 3
  rcases kd_cases b0 with ⟨h, e⟩ | ⟨h, h', e⟩ | ⟨h, h', e⟩ | ⟨h, e⟩ | ⟨h, h', e⟩ | ⟨h, e⟩ | ⟨h, h', e⟩ | ⟨h, e⟩ | ⟨h, h', e⟩ | ⟨h, e⟩ <;> rw [e]
  · refine ⟨1, 0, 0, 0, rfl, by omega, by omega, ?_⟩
    rw [decS_yes (by omega) ⟨hl, by omega, by omega⟩]
    unfold one
    rw [if_pos ⟨hl, h⟩]
    rfl
  · refine ⟨0, 0, 0, 0, rfl, by omega, by omega, ?_⟩
    have : decS l 0 0 0 0 = (0, 0) := by unfold decS; rw [if_pos (.inl rfl)]
    rw [this]
    unfold one
    rw [if_neg (by omega), if_neg (by omega), if_neg (by omega), if_neg (by omega)]
  · refine ⟨2, 192, 128, 191, rfl, by omega, by omega, ?_⟩
    by_cases c : RowOk l 2 128 191
    · rw [decS_yes (by omega) c]
      unfold RowOk at c
      rw [upto2] at c
      unfold one
      rw [if_neg (by omega), if_pos (by omega)]
      simp only [acc, Prod.mk.injEq, and_true, Nat.zero_add]
      omega
    · rw [decS_no c]
      unfold RowOk at c
      rw [upto2] at c
      unfold one
      rw [if_neg (by omega), if_neg (by omega), if_neg (by omega), if_neg (by omega)]
  · refine ⟨3, 224, 160, 191, rfl, by omega, by omega, ?_⟩
    by_cases c : RowOk l 3 160 191
    · rw [decS_yes (by omega) c]
      unfold RowOk at c
      rw [upto3] at c
      unfold one
      rw [if_neg (by omega), if_neg (by omega), if_pos (by omega)]
      simp only [acc, Prod.mk.injEq, and_true, Nat.zero_add, Nat.reduceAdd]
      omega
    · rw [decS_no c]
      unfold RowOk at c
      rw [upto3] at c
      unfold one
      rw [if_neg (by omega), if_neg (by omega), if_neg (by omega), if_neg (by omega)]
  · refine ⟨3, 224, 128, 191, rfl, by omega, by omega, ?_⟩
    by_cases c : RowOk l 3 128 191
    · rw [decS_yes (by omega) c]
      unfold RowOk at c
      rw [upto3] at c
      unfold one
      rw [if_neg (by omega), if_neg (by omega), if_pos (by omega)]
      simp only [acc, Prod.mk.injEq, and_true, Nat.zero_add, Nat.reduceAdd]
      omega
    · rw [decS_no c]
      unfold RowOk at c
      rw [upto3] at c
      unfold one
      rw [if_neg (by omega), if_neg (by omega), if_neg (by omega), if_neg (by omega)]
  · refine ⟨3, 224, 128, 159, rfl, by omega, by omega, ?_⟩
    by_cases c : RowOk l 3 128 159
    · rw [decS_yes (by omega) c]
      unfold RowOk at c
      rw [upto3] at c
      unfold one
      rw [if_neg (by omega), if_neg (by omega), if_pos (by omega)]
      simp only [acc, Prod.mk.injEq, and_true, Nat.zero_add, Nat.reduceAdd]
      omega
    · rw [decS_no c]
      unfold RowOk at c
      rw [upto3] at c
      unfold one
      rw [if_neg (by omega), if_neg (by omega), if_neg (by omega), if_neg (by omega)]
  · refine ⟨3, 224, 128, 191, rfl, by omega, by omega, ?_⟩
    by_cases c : RowOk l 3 128 191
    · rw [decS_yes (by omega) c]
      unfold RowOk at c
      rw [upto3] at c
      unfold one
      rw [if_neg (by omega), if_neg (by omega), if_pos (by omega)]
      simp only [acc, Prod.mk.injEq, and_true, Nat.zero_add, Nat.reduceAdd]
      omega
    · rw [decS_no c]
      unfold RowOk at c
      rw [upto3] at c
      unfold one
      rw [if_neg (by omega), if_neg (by omega), if_neg (by omega), if_neg (by omega)]
  · refine ⟨4, 240, 144, 191, rfl, by omega, by omega, ?_⟩
    by_cases c : RowOk l 4 144 191
    · rw [decS_yes (by omega) c]
      unfold RowOk at c
      rw [upto4] at c
      unfold one
      rw [if_neg (by omega), if_neg (by omega), if_neg (by omega), if_pos (by omega)]
      simp only [acc, Prod.mk.injEq, and_true, Nat.zero_add, Nat.reduceAdd]
      omega
    · rw [decS_no c]
      unfold RowOk at c
      rw [upto4] at c
      unfold one
      rw [if_neg (by omega), if_neg (by omega), if_neg (by omega), if_neg (by omega)]
  · refine ⟨4, 240, 128, 191, rfl, by omega, by omega, ?_⟩
    by_cases c : RowOk l 4 128 191
    · rw [decS_yes (by omega) c]
      unfold RowOk at c
      rw [upto4] at c
      unfold one
      rw [if_neg (by omega), if_neg (by omega), if_neg (by omega), if_pos (by omega)]
      simp only [acc, Prod.mk.injEq, and_true, Nat.zero_add, Nat.reduceAdd]
      omega
    · rw [decS_no c]
      unfold RowOk at c
      rw [upto4] at c
      unfold one
      rw [if_neg (by omega), if_neg (by omega), if_neg (by omega), if_neg (by omega)]
  · refine ⟨4, 240, 128, 143, rfl, by omega, by omega, ?_⟩
    by_cases c : RowOk l 4 128 143
    · rw [decS_yes (by omega) c]
      unfold RowOk at c
      rw [upto4] at c
      unfold one
      rw [if_neg (by omega), if_neg (by omega), if_neg (by omega), if_pos (by omega)]
      simp only [acc, Prod.mk.injEq, and_true, Nat.zero_add, Nat.reduceAdd]
      omega
    · rw [decS_no c]
      unfold RowOk at c
      rw [upto4] at c
      unfold one
      rw [if_neg (by omega), if_neg (by omega), if_neg (by omega), if_neg (by omega)]
theorem decode_any {w : World} {s : ByteArray} (hs : 0 < s.size) (hl : Laid w) :
    Calls Tryz.prog 170 #[.string s] w fun e w' => e = .returned (.tuple #[.int .i64 (one s.data.toList).1, .int .i64 (one s.data.toList).2]) ∧ Below w.heap.size w w' := by
  obtain ⟨z, m, a, b, hk, hz, hm, he⟩ := dec_one s.data.toList (by simpa using hs)
  have h := kindOf_any (nb_lt s.data.toList 0) hl
  rw [hk] at h
  rw [← he]
  exact decode_walk hs hz hm h
end Go.Proofs.YtlfbnfphocpgeaaGreatDoor.Utf
namespace Go.Proofs.YtlfbnfphocpgeaaGreatDoor.Utf
open Go.RowKit Kit
set_option maxHeartbeats 1000000 in
theorem bad_any {w : World} {s : ByteArray} (hs : s.size < 4611686018427387904) (hl : Laid w) :
    Calls Tryz.prog 146 #[.string s] w fun e w' => e = .returned (.int .i64 (badI s.data.toList)) ∧ Below w.heap.size w w' := by
  have hlen : s.data.toList.length = s.size := by simp
  go_enter Tryz.func146, Tryz.ntmps146
  go_wp2_with fail
  go_loopw [3] (fun i wr => ∃ k : Nat, k ≤ s.size ∧ i = .int .i64 k ∧ (scan k (s.data.toList.drop k)).2 = bad s.data.toList ∧ Below w.heap.size w wr) (fun i _ => s.size - (intOf i).toNat)
  case atStart => exact ⟨0, Nat.zero_le _, rfl, rfl, Below.refl _ _⟩
  case round =>
    obtain ⟨k, hk, rfl, hsc, hbel⟩ := hrel
    have hlr := hl.below hbel hl.lt
    by_cases hlt : k < s.size
    · have hks : (k : Int) < (s.size : Int) := by omega
      have hx : 0 < (s.extract k s.size).size := by simp; omega
      have hd := decode_any hx hlr
      rw [extract_rest] at hd
      rcases scan_at (l := s.data.toList) (by omega : k < s.data.toList.length) with ⟨h0, hr⟩ | ⟨h0, h1, h2, hr⟩
      · rw [hr] at hsc
        go_wp2_with fail
        refine hd.mono ?_
        rintro e w1 ⟨rfl, b1⟩
        go_wp2_with fail
        go_ret
        exact ⟨by rw [badI, ← hsc]; rfl, hbel.trans (b1.mono hbel.size)⟩
      · rw [hr] at hsc
        go_wp2_with fail
        refine hd.mono ?_
        rintro e w1 ⟨rfl, b1⟩
        go_wp2_with fail
        go_roundw
        case rel => exact ⟨k + (one (s.data.toList.drop k)).2, by omega, by go_num, hsc, hbel.trans (b1.mono hbel.size)⟩
        case measure => simp [intOf]; omega
    · obtain rfl : k = s.size := by omega
      go_wp2_with fail
      go_ret
      have e : s.data.toList.drop s.size = [] := List.drop_eq_nil_of_le (by omega)
      rw [e, scan_nil] at hsc
      exact ⟨by rw [badI, ← hsc]; rfl, hbel⟩
theorem valid_any {w : World} {s : ByteArray} (hs : s.size < 4611686018427387904) (hl : Laid w) :
    Calls Tryz.prog 112 #[.string s] w fun e w' => e = .returned (.bool (decide (badI s.data.toList < 0))) ∧ Below w.heap.size w w' := by
  have hb := bad_any hs hl
  go_enter Tryz.func112, Tryz.ntmps112
  go_wp2_with fail
  refine hb.mono ?_
  rintro e w1 ⟨rfl, b1⟩
  go_wp2_with fail
  go_ret
  exact ⟨rfl, b1⟩
end Go.Proofs.YtlfbnfphocpgeaaGreatDoor.Utf
namespace Go.Proofs.YtlfbnfphocpgeaaGreatDoor.Utf
open Go.RowKit Kit
theorem utf8_encode {c : Nat} (hc : Scalar c) : Utf8.encode (c : Int) = ⟨(enc c).toArray⟩ := by
  have hc' := hc
  unfold Scalar at hc'
  have hv : Utf8.valid (c : Int) = true := by
    simp [Utf8.valid]; omega
  unfold Utf8.encode enc encN
  rw [hv]
  simp only [if_true, Int.toNat_natCast]
  split
  · rfl
  split
  · rfl
  split <;> rfl
theorem put_any {w : World} {c : Int} (h1 : -9223372036854775808 ≤ c) (h2 : c ≤ 9223372036854775807) :
    Calls Tryz.prog 154 #[.int .i64 c] w fun e w' => e = .returned (.tuple #[.string ⟨(putL c).toArray⟩, .bool (decide (0 ≤ c ∧ c ≤ 1114111 ∧ (c < 55296 ∨ 57343 < c)))]) ∧ w = w' := by
  by_cases hc : 0 ≤ c ∧ c ≤ 1114111 ∧ (c < 55296 ∨ 57343 < c)
  · obtain ⟨n, rfl⟩ := Int.eq_ofNat_of_zero_le hc.1
    have hsc : Scalar n := by unfold Scalar; omega
    have e : putL (n : Int) = enc n := by unfold putL; rw [if_pos hc, Int.toNat_natCast]
    rw [e, ← utf8_encode hsc, decide_eq_true hc]
    obtain ⟨c1, c2, c3⟩ := hc
    have k1 : decide ((n : Int) < 0) = false := by simp
    have k2 : decide ((1114111 : Int) < n) = false := by simp; omega
    by_cases c4 : (55296 : Int) ≤ n
    · have k3 : decide ((n : Int) ≤ 57343) = false := by simp; omega
      go_enter Tryz.func154, Tryz.ntmps154
      go_wp2_with fail
      go_ret2
      exact ⟨rfl, rfl⟩
    · have k3 : decide ((55296 : Int) ≤ n) = false := by simp; omega
      go_enter Tryz.func154, Tryz.ntmps154
      go_wp2_with fail
      go_ret2
      exact ⟨rfl, rfl⟩
  · have e : putL c = [] := by unfold putL; rw [if_neg hc]
    rw [e, decide_eq_false hc]
    by_cases c1 : c < 0
    · go_enter Tryz.func154, Tryz.ntmps154
      go_wp2_with fail
      go_ret2
      exact ⟨rfl, rfl⟩
    by_cases c2 : 1114111 < c
    · go_enter Tryz.func154, Tryz.ntmps154
      go_wp2_with fail
      go_ret2
      exact ⟨rfl, rfl⟩
    have c3 : 55296 ≤ c := by omega
    have c4 : c ≤ 57343 := by omega
    go_enter Tryz.func154, Tryz.ntmps154
    go_wp2_with fail
    go_ret2
    exact ⟨rfl, rfl⟩
end Go.Proofs.YtlfbnfphocpgeaaGreatDoor.Utf
namespace Go.Proofs.YtlfbnfphocpgeaaGreatDoor.Utf
open Go.RowKit Kit Go.Shelf
attribute [local go_sem] Oper.semAt_some
/-- What a round must keep: what lay below n₀, and the box in which the string lies. -/
def Kept (n₀ Bn : Nat) (A B : World) : Prop := Below n₀ A B ∧ B.heap[Bn]? = A.heap[Bn]?
theorem Kept.refl (n₀ Bn : Nat) (A : World) : Kept n₀ Bn A A := ⟨Below.refl _ _, rfl⟩
theorem Kept.trans {n₀ Bn : Nat} {A B C : World} (h : Kept n₀ Bn A B) (k : Kept n₀ Bn B C) : Kept n₀ Bn A C := ⟨h.1.trans k.1, k.2.trans h.2⟩
theorem Kept.of_below {n₀ Bn : Nat} {A B : World} (h : Below A.heap.size A B) (hn : n₀ ≤ A.heap.size) (hB : Bn < A.heap.size) : Kept n₀ Bn A B := ⟨h.mono hn, h.block _ hB⟩
end Go.Proofs.YtlfbnfphocpgeaaGreatDoor.Utf
namespace Go.Proofs.YtlfbnfphocpgeaaGreatDoor.Quo
open Go.RowKit Kit Txt Utf Go.Shelf
attribute [local go_sem] Oper.semAt_some
set_option maxHeartbeats 1000000 in
theorem asItIs_any {w : World} {c : Nat} {x : Int} (hx : x = (c : Int)) : Calls Tryz.prog 145 #[.int .i64 x] w fun e w' => e = .returned (.bool (decide (AsIs c))) ∧ w' = w := by
  subst hx
  by_cases h1 : 32 ≤ c
  · have d1 : (32 : Int) ≤ c := by omega
    by_cases h2 : c = 34
    · subst h2
      go_enter Tryz.func145, Tryz.ntmps145
      go_wp2_with fail
      go_ret
      exact ⟨rfl, rfl⟩
    have d2 : ((c : Int) != 34) = true := by simp; omega
    by_cases h3 : c = 92
    · subst h3
      go_enter Tryz.func145, Tryz.ntmps145
      go_wp2_with fail
      go_ret
      exact ⟨rfl, rfl⟩
    have d3 : ((c : Int) != 92) = true := by simp; omega
    rw [decide_eq_true (show AsIs c from ⟨h1, h2, h3⟩)]
    clear h1 h2 h3
    go_enter Tryz.func145, Tryz.ntmps145
    go_wp2_with fail
    go_ret
    exact ⟨rfl, rfl⟩
  · have d1 : decide ((32 : Int) ≤ c) = false := by simp; omega
    rw [decide_eq_false (show ¬ AsIs c from fun h => h1 h.1)]
    clear h1
    go_enter Tryz.func145, Tryz.ntmps145
    go_wp2_with fail
    go_ret
    exact ⟨rfl, rfl⟩
/-- What plain tells. -/
def Plain (R : Nat) (l : List UInt8) (w : World) (e : Ending) (w' : World) : Prop := w.grownBy w' (some R) ∧
  ((∃ k c r, k ≤ l.length ∧ l.drop k = UInt8.ofNat c :: r ∧ ¬ AsIs c ∧ (∀ s at', scanF s at' l = scanF (s ++ l.take k) (at' + k) (l.drop k)) ∧ e = .returned (.string (txt (l.take k))) ∧ Rdr R (l.drop k) w') ∨
   (∃ q, q ≠ 0 ∧ (∀ s at', scanF s at' l = err q) ∧ e = thrown q))
end Go.Proofs.YtlfbnfphocpgeaaGreatDoor.Quo
namespace Go.Proofs.YtlfbnfphocpgeaaGreatDoor.Quo
open Go.RowKit Kit Txt Utf
/-- What stands behind a backslash, and what it stands for. -/
def signsL : List UInt8 := [34, 92, 47, 98, 102, 110, 114, 116]
def meansL : List UInt8 := [34, 92, 47, 8, 12, 10, 13, 9]
theorem index_any {w : World} (l : List UInt8) (c : UInt8) : Calls Tryz.prog 69 #[.string (txt l), .int .u8 (c.toNat : Int)] w fun e w' => e = .returned (.int .i64 (Lib.indexByte l c)) ∧ w' = w := by
  have h := Tryz.strings_IndexByte (txt l) (c.toNat : Int) w
  rw [txt_list] at h
  have e : ((c.toNat : Int)).toNat.toUInt8 = c := by
    rw [Int.toNat_natCast]
    exact UInt8.ofNat_toNat
  rwa [e] at h
end Go.Proofs.YtlfbnfphocpgeaaGreatDoor.Quo
namespace Go.Proofs.YtlfbnfphocpgeaaGreatDoor.Bld
open Go.RowKit Kit Txt
/-- The builder in block b, all its blocks from B on, holds l. -/
def Bld (B b : Nat) (l : List UInt8) (w : World) : Prop := B ≤ w.heap.size ∧ Lib.IsBuilder 62 5 B b (Lib.byteCells l) w
theorem Bld.new (w : World) : Bld w.heap.size w.heap.size [] (w.alloc (.cells #[.pointer none, .slice none 0 0] 62)) :=
  ⟨by simp, Lib.fresh_isBuilder _ _ _⟩
theorem at_kept {T e : TypeId} {B b : Nat} {p : Value} {bs : List Value} {w w' : World} (h : Lib.BuilderAt T e B b p bs w) (k : Below w.heap.size w w') : Lib.BuilderAt T e B b p bs w' := by
  have hlt := h.lt
  obtain ⟨hB, v, hb, hown, hne⟩ := h
  refine ⟨hB, v, (k.block b hlt).trans hb, hown.kept (row := none) ⟨k.os, k.tape, k.output, k.size, fun i hi _ => k.block i hi⟩ ?_, hne⟩
  cases hv : v.ownBlock with
  | none => exact .inl rfl
  | some g => exact .inr (by simp)
theorem Bld.kept {B b : Nat} {l : List UInt8} {w w' : World} (h : Bld B b l w) (k : Below w.heap.size w w') : Bld B b l w' :=
  ⟨Nat.le_trans h.1 k.size, h.2.elim (fun h => .inl (at_kept h k)) (fun h => .inr (at_kept h k))⟩
theorem Bld.lt {B b : Nat} {l : List UInt8} {w : World} (h : Bld B b l w) : B ≤ b ∧ b < w.heap.size := h.2.elim (fun h => ⟨h.1, h.lt⟩) (fun h => ⟨h.1, h.lt⟩)
theorem cells_app (l m : List UInt8) : Lib.byteCells l ++ Lib.byteCells m = Lib.byteCells (l ++ m) := by simp [Lib.byteCells]
theorem str_any {B b : Nat} {l m : List UInt8} {w : World} (h : Bld B b l w) (hl : l.length < 1000000) (hm : m.length < 1000000) :
    Calls Tryz.prog 108 #[.pointer (some ⟨b, 0, none⟩), .string (txt m)] w fun e w' => e = .returned (.tuple #[.int .i64 (m.length : Int), .nilIface]) ∧ Bld B b (l ++ m) w' ∧ Below B w w' := by
  refine (Tryz.Builder_WriteString B b (Lib.byteCells l) (txt m) w h.2 (by rw [Lib.byteCells_length, txt_size]; omega) h.1).mono ?_
  rintro e w' ⟨he, hb, k⟩
  rw [txt_size] at he
  refine ⟨he, ⟨Nat.le_trans h.1 k.size, .inr ?_⟩, k⟩
  rw [← cells_app]
  exact hb
theorem string_any {B b : Nat} {l : List UInt8} {w : World} (h : Bld B b l w) :
    Calls Tryz.prog 30 #[.pointer (some ⟨b, 0, none⟩)] w fun e w' => e = .returned (.string (txt l)) ∧ Below B w w' := Tryz.Builder_String_any B b l w h.2 h.1
end Go.Proofs.YtlfbnfphocpgeaaGreatDoor.Bld
namespace Go.Proofs.YtlfbnfphocpgeaaGreatDoor.Utf
open Go.RowKit Kit
theorem conv1 {w : World} {x0 : Int} (a0 : UInt8) (h0 : x0 = a0.toNat) :
    (convert 60 9 (.slice (some ⟨w.heap.size, 0, none⟩) 1 1)).run Tryz.prog (w.alloc (.cells #[.int .u8 x0] 5)) = .ok (.string ⟨#[a0]⟩) (w.alloc (.cells #[.int .u8 x0] 5)) := by
  refine run_convert_bytes_back _ _ _ _ _ _ [a0] Tryz.underlying60 Tryz.underlying5 Tryz.underlying9 ?_
  intro j hj
  have hn := World.cell?_alloc_mark w #[.int .u8 x0] 5 (0, 0) j
  rw [h0] at hn ⊢
  rw [show (⟨w.heap.size, 0, none⟩ : Addr).add j = ⟨w.heap.size, j, none⟩ by simp [Addr.add]; omega, hn]
  match j, hj with
  | 0, _ => rfl
theorem conv2 {w : World} {x0 x1 : Int} (a0 a1 : UInt8) (h0 : x0 = a0.toNat) (h1 : x1 = a1.toNat) :
    (convert 60 9 (.slice (some ⟨w.heap.size, 0, none⟩) 2 2)).run Tryz.prog (w.alloc (.cells #[.int .u8 x0, .int .u8 x1] 5)) = .ok (.string ⟨#[a0, a1]⟩) (w.alloc (.cells #[.int .u8 x0, .int .u8 x1] 5)) := by
  refine run_convert_bytes_back _ _ _ _ _ _ [a0, a1] Tryz.underlying60 Tryz.underlying5 Tryz.underlying9 ?_
  intro j hj
  have hn := World.cell?_alloc_mark w #[.int .u8 x0, .int .u8 x1] 5 (0, 0) j
  rw [h0, h1] at hn ⊢
  rw [show (⟨w.heap.size, 0, none⟩ : Addr).add j = ⟨w.heap.size, j, none⟩ by simp [Addr.add]; omega, hn]
  match j, hj with
  | 0, _ => rfl
  | 1, _ => rfl
theorem conv3 {w : World} {x0 x1 x2 : Int} (a0 a1 a2 : UInt8) (h0 : x0 = a0.toNat) (h1 : x1 = a1.toNat) (h2 : x2 = a2.toNat) :
    (convert 60 9 (.slice (some ⟨w.heap.size, 0, none⟩) 3 3)).run Tryz.prog (w.alloc (.cells #[.int .u8 x0, .int .u8 x1, .int .u8 x2] 5)) = .ok (.string ⟨#[a0, a1, a2]⟩) (w.alloc (.cells #[.int .u8 x0, .int .u8 x1, .int .u8 x2] 5)) := by
  refine run_convert_bytes_back _ _ _ _ _ _ [a0, a1, a2] Tryz.underlying60 Tryz.underlying5 Tryz.underlying9 ?_
  intro j hj
  have hn := World.cell?_alloc_mark w #[.int .u8 x0, .int .u8 x1, .int .u8 x2] 5 (0, 0) j
  rw [h0, h1, h2] at hn ⊢
  rw [show (⟨w.heap.size, 0, none⟩ : Addr).add j = ⟨w.heap.size, j, none⟩ by simp [Addr.add]; omega, hn]
  match j, hj with
  | 0, _ => rfl
  | 1, _ => rfl
  | 2, _ => rfl
theorem conv4 {w : World} {x0 x1 x2 x3 : Int} (a0 a1 a2 a3 : UInt8) (h0 : x0 = a0.toNat) (h1 : x1 = a1.toNat) (h2 : x2 = a2.toNat) (h3 : x3 = a3.toNat) :
    (convert 60 9 (.slice (some ⟨w.heap.size, 0, none⟩) 4 4)).run Tryz.prog (w.alloc (.cells #[.int .u8 x0, .int .u8 x1, .int .u8 x2, .int .u8 x3] 5)) = .ok (.string ⟨#[a0, a1, a2, a3]⟩) (w.alloc (.cells #[.int .u8 x0, .int .u8 x1, .int .u8 x2, .int .u8 x3] 5)) := by
  refine run_convert_bytes_back _ _ _ _ _ _ [a0, a1, a2, a3] Tryz.underlying60 Tryz.underlying5 Tryz.underlying9 ?_
  intro j hj
  have hn := World.cell?_alloc_mark w #[.int .u8 x0, .int .u8 x1, .int .u8 x2, .int .u8 x3] 5 (0, 0) j
  rw [h0, h1, h2, h3] at hn ⊢
  rw [show (⟨w.heap.size, 0, none⟩ : Addr).add j = ⟨w.heap.size, j, none⟩ by simp [Addr.add]; omega, hn]
  match j, hj with
  | 0, _ => rfl
  | 1, _ => rfl
  | 2, _ => rfl
  | 3, _ => rfl
set_option maxRecDepth 100000 in
theorem rput_any {w : World} {c : Int} (h1 : -9223372036854775808 ≤ c) (h2 : c ≤ 9223372036854775807) :
    Calls Tryz.prog 121 #[.int .i64 c] w fun e w' => e = .returned (.string ⟨(putL c).toArray⟩) ∧ Below w.heap.size w w' := by
  by_cases hc : 0 ≤ c ∧ c ≤ 1114111 ∧ (c < 55296 ∨ 57343 < c)
  · obtain ⟨n, rfl⟩ := Int.eq_ofNat_of_zero_le hc.1
    have hsc : Scalar n := by unfold Scalar; omega
    have e : putL (n : Int) = enc n := by unfold putL; rw [if_pos hc, Int.toNat_natCast]
    rw [e]
    obtain ⟨c1, c2, c3⟩ := hc
    have k1 : decide ((n : Int) < 0) = false := by simp
    have k2 : decide ((1114111 : Int) < n) = false := by simp; omega
    rcases enc_kinds hsc with ⟨m1, e⟩ | ⟨m1, m2, e⟩ | ⟨m1, m2, e⟩ | ⟨m1, m2, e⟩
    · have k3 : decide ((55296 : Int) ≤ n) = false := by simp; omega
      have k4 : (n : Int) < 128 := by omega
      generalize hA0 : UInt8.ofNat (n) = A0 at e
      rw [e]
      go_enter Tryz.func121, Tryz.ntmps121
      go_wp2_with fail
      rw [conv1 A0 ?_]
      · go_wp2_with fail
        go_ret
        exact ⟨rfl, (Below.refl _ w).alloc (Nat.le_refl _) _⟩
      · rw [← hA0, nbc (by omega)]
    · have k3 : decide ((55296 : Int) ≤ n) = false := by simp; omega
      have k4 : decide ((n : Int) < 128) = false := by simp; omega
      have k5 : (n : Int) < 2048 := by omega
      generalize hA0 : UInt8.ofNat (192 + n / 64) = A0 at e
      generalize hA1 : UInt8.ofNat (128 + n % 64) = A1 at e
      rw [e]
      go_enter Tryz.func121, Tryz.ntmps121
      go_wp2_with fail
      rw [conv2 A0 A1 ?_ ?_]
      · go_wp2_with fail
        go_ret
        exact ⟨rfl, (Below.refl _ w).alloc (Nat.le_refl _) _⟩
      · rw [← hA0, nbc (by omega)]; omega
      · rw [← hA1, nbc (by omega)]; omega
    · by_cases k7 : n < 55296
      · have k3 : decide ((55296 : Int) ≤ n) = false := by simp; omega
        have k4 : decide ((n : Int) < 128) = false := by simp; omega
        have k5 : decide ((n : Int) < 2048) = false := by simp; omega
        have k6 : (n : Int) < 65536 := by omega
        generalize hA0 : UInt8.ofNat (224 + n / 4096) = A0 at e
        generalize hA1 : UInt8.ofNat (128 + n / 64 % 64) = A1 at e
        generalize hA2 : UInt8.ofNat (128 + n % 64) = A2 at e
        rw [e]
        go_enter Tryz.func121, Tryz.ntmps121
        go_wp2_with fail
        rw [conv3 A0 A1 A2 ?_ ?_ ?_]
        · go_wp2_with fail
          go_ret
          exact ⟨rfl, (Below.refl _ w).alloc (Nat.le_refl _) _⟩
        · rw [← hA0, nbc (by omega)]; omega
        · rw [← hA1, nbc (by omega)]; omega
        · rw [← hA2, nbc (by omega)]; omega
      · have k3 : decide ((n : Int) ≤ 57343) = false := by simp; omega
        have k8 : (55296 : Int) ≤ n := by omega
        have k4 : decide ((n : Int) < 128) = false := by simp; omega
        have k5 : decide ((n : Int) < 2048) = false := by simp; omega
        have k6 : (n : Int) < 65536 := by omega
        generalize hA0 : UInt8.ofNat (224 + n / 4096) = A0 at e
        generalize hA1 : UInt8.ofNat (128 + n / 64 % 64) = A1 at e
        generalize hA2 : UInt8.ofNat (128 + n % 64) = A2 at e
        rw [e]
        go_enter Tryz.func121, Tryz.ntmps121
        go_wp2_with fail
        rw [conv3 A0 A1 A2 ?_ ?_ ?_]
        · go_wp2_with fail
          go_ret
          exact ⟨rfl, (Below.refl _ w).alloc (Nat.le_refl _) _⟩
        · rw [← hA0, nbc (by omega)]; omega
        · rw [← hA1, nbc (by omega)]; omega
        · rw [← hA2, nbc (by omega)]; omega
    · have k3 : decide ((n : Int) ≤ 57343) = false := by simp; omega
      have k8 : (55296 : Int) ≤ n := by omega
      have k4 : decide ((n : Int) < 128) = false := by simp; omega
      have k5 : decide ((n : Int) < 2048) = false := by simp; omega
      have k6 : decide ((n : Int) < 65536) = false := by simp; omega
      generalize hA0 : UInt8.ofNat (240 + n / 262144) = A0 at e
      generalize hA1 : UInt8.ofNat (128 + n / 4096 % 64) = A1 at e
      generalize hA2 : UInt8.ofNat (128 + n / 64 % 64) = A2 at e
      generalize hA3 : UInt8.ofNat (128 + n % 64) = A3 at e
      rw [e]
      go_enter Tryz.func121, Tryz.ntmps121
      go_wp2_with fail
      rw [conv4 A0 A1 A2 A3 ?_ ?_ ?_ ?_]
      · go_wp2_with fail
        go_ret
        exact ⟨rfl, (Below.refl _ w).alloc (Nat.le_refl _) _⟩
      · rw [← hA0, nbc (by omega)]; omega
      · rw [← hA1, nbc (by omega)]; omega
      · rw [← hA2, nbc (by omega)]; omega
      · rw [← hA3, nbc (by omega)]; omega
  · have e : putL c = [] := by unfold putL; rw [if_neg hc]
    rw [e]
    by_cases c1 : c < 0
    · go_enter Tryz.func121, Tryz.ntmps121
      go_wp2_with fail
      go_ret
      exact ⟨rfl, Below.refl _ _⟩
    by_cases c2 : 1114111 < c
    · go_enter Tryz.func121, Tryz.ntmps121
      go_wp2_with fail
      go_ret
      exact ⟨rfl, Below.refl _ _⟩
    have c3 : 55296 ≤ c := by omega
    have c4 : c ≤ 57343 := by omega
    go_enter Tryz.func121, Tryz.ntmps121
    go_wp2_with fail
    go_ret
    exact ⟨rfl, Below.refl _ _⟩
end Go.Proofs.YtlfbnfphocpgeaaGreatDoor.Utf
namespace Go.Proofs.YtlfbnfphocpgeaaGreatDoor.Utf
open Go.RowKit Kit
/-- What guess has put together ahead of the i-th byte. -/
def gacc (l : List UInt8) (ld : Int) : Nat → Int
  | 0 => 0
  | 1 => nb l 0 - ld
  | i + 2 => gacc l ld (i + 1) * 64 + nb l (i + 1) - 128
theorem gacc_lt (l : List UInt8) {ld : Int} (h0 : 0 ≤ ld) (h1 : ld ≤ 255) : ∀ i, -(300 * 64 ^ i : Nat) + 4 < gacc l ld (i + 1) ∧ gacc l ld (i + 1) < (300 * 64 ^ i : Nat) - 4
  | 0 => by have := nb_lt l 0; simp [gacc]; omega
  | i + 1 => by
    have := gacc_lt l h0 h1 i
    have := nb_lt l (i + 1)
    have : 0 < 64 ^ i := Nat.pow_pos (by omega)
    simp only [gacc, Nat.pow_succ]
    omega
set_option maxHeartbeats 1000000 in
set_option maxRecDepth 100000 in
theorem guess_walk {w : World} {s : ByteArray} {ld : Int} (n : Nat) (hn : s.size = n + 1) (h4 : n < 4) (h0 : 0 ≤ ld) (h1 : ld ≤ 255) (hld : (#[.int .i64 0, .int .i64 192, .int .i64 224, .int .i64 240] : Array Value)[n]? = some (.int .i64 ld)) :
    Calls Tryz.prog 120 #[.string s] w fun e w' => e = .returned (.int .i64 (gacc s.data.toList ld (n + 1))) ∧ Below w.heap.size w w' := by
  have hz : (0 : Int) < (s.size : Int) := by omega
  have hx0 := at_nb s 0 (by omega)
  have hc : (w.alloc (.cells #[.int .i64 0, .int .i64 192, .int .i64 224, .int .i64 240] 3)).cell? ⟨w.heap.size, n, none⟩ = some (.int .i64 ld) := (cell_of (World.alloc_heap_new w _) n).trans hld
  have hsz : (s.size : Int) - 1 = n := by omega
  go_enter Tryz.func120, Tryz.ntmps120
  go_wp2_with fail
  go_quiet (fail)
  go_wp2_with fail
  go_loopw [4, 5] (fun c i wr => ∃ k : Nat, 1 ≤ k ∧ k ≤ n + 1 ∧ c = .int .i64 (gacc s.data.toList ld k) ∧ i = .int .i64 k ∧ Below w.heap.size w wr) (fun _ i _ => n + 1 - (intOf i).toNat)
  case atStart =>
    refine ⟨1, by omega, by omega, ?_, rfl, below_drewN ((Below.refl _ w).alloc (Nat.le_refl _) _) _⟩
    have := nb_lt s.data.toList 0
    simp only [gacc, Value.int.injEq, true_and]
    unfold wrap64
    omega
  case round =>
    clear hc
    obtain ⟨k, hk1, hkz, rfl, rfl, hbel⟩ := hrel
    by_cases hlt : k < n + 1
    · have hks : (k : Int) < (s.size : Int) := by omega
      have hxk := at_nb s k (by omega)
      have hb : -1000000000000 < gacc s.data.toList ld k ∧ gacc s.data.toList ld k < 1000000000000 := by
        have h3 : k - 1 + 1 = k := by omega
        have h4 := gacc_lt s.data.toList h0 h1 (k - 1)
        rw [h3] at h4
        have h5 : 64 ^ (k - 1) ≤ 64 ^ 3 := Nat.pow_le_pow_right (by omega) (by omega)
        omega
      obtain ⟨b1, b2⟩ := hb
      have b3 := nb_lt s.data.toList k
      go_wp2_with fail
      go_roundw
      case rel =>
        refine ⟨k + 1, by omega, by omega, ?_, by go_num, hbel⟩
        match k, hk1 with
        | k + 1, _ => simp only [gacc]
      case measure => simp [intOf]; omega
    · obtain rfl : k = n + 1 := by omega
      go_wp2_with fail
      go_ret
      exact ⟨rfl, hbel⟩
def lead : Nat → Int
  | 0 => 0
  | 1 => 192
  | 2 => 224
  | _ => 240
/-- What guess answers. -/
def gv (t : List UInt8) : Int := gacc t (lead (t.length - 1)) t.length
theorem guess_any {w : World} {s : ByteArray} (h1 : 1 ≤ s.size) (h4 : s.size ≤ 4) :
    Calls Tryz.prog 120 #[.string s] w fun e w' => e = .returned (.int .i64 (gv s.data.toList)) ∧ Below w.heap.size w w' := by
  have hlen : s.data.toList.length = s.size := by simp
  unfold gv
  rw [hlen]
  rcases (show s.size = 1 ∨ s.size = 2 ∨ s.size = 3 ∨ s.size = 4 by omega) with h | h | h | h <;> rw [h]
  · exact guess_walk 0 h (by omega) (by decide) (by decide) rfl
  · exact guess_walk 1 h (by omega) (by decide) (by decide) rfl
  · exact guess_walk 2 h (by omega) (by decide) (by decide) rfl
  · exact guess_walk 3 h (by omega) (by decide) (by decide) rfl
theorem gv_range {t : List UInt8} (h1 : 1 ≤ t.length) (h4 : t.length ≤ 4) : -9223372036854775808 ≤ gv t ∧ gv t ≤ 9223372036854775807 := by
  unfold gv
  obtain ⟨n, hn⟩ : ∃ n, t.length = n + 1 := ⟨t.length - 1, by omega⟩
  rw [hn]
  have hl : 0 ≤ lead (n + 1 - 1) ∧ lead (n + 1 - 1) ≤ 255 := by
    unfold lead
    split <;> decide
  have := gacc_lt t hl.1 hl.2 n
  have h5 : 64 ^ n ≤ 64 ^ 3 := Nat.pow_le_pow_right (by omega) (by omega)
  omega
theorem gv_enc {k : Nat} (hk : Scalar k) : gv (enc k) = k := by
  have hk' := hk
  unfold Scalar at hk'
  rcases enc_kinds hk with ⟨m1, e⟩ | ⟨m1, m2, e⟩ | ⟨m1, m2, e⟩ | ⟨m1, m2, e⟩ <;> rw [e]
  · have n0 : nb [UInt8.ofNat k] 0 = k := nbc (by omega)
    simp only [gv, List.length_cons, List.length_nil, Nat.zero_add, Nat.sub_self, lead, gacc, n0]
    omega
  · generalize hl : [UInt8.ofNat (192 + k / 64), UInt8.ofNat (128 + k % 64)] = l
    have n0 : nb l 0 = 192 + k / 64 := by rw [← hl]; exact nbc (by omega)
    have n1 : nb l 1 = 128 + k % 64 := by rw [← hl]; exact nbc (by omega)
    have hn : l.length = 2 := by rw [← hl]; rfl
    simp only [gv, hn, lead, gacc, n0, n1, Nat.zero_add, Nat.reduceSub]
    omega
  · generalize hl : [UInt8.ofNat (224 + k / 4096), UInt8.ofNat (128 + k / 64 % 64), UInt8.ofNat (128 + k % 64)] = l
    have n0 : nb l 0 = 224 + k / 4096 := by rw [← hl]; exact nbc (by omega)
    have n1 : nb l 1 = 128 + k / 64 % 64 := by rw [← hl]; exact nbc (by omega)
    have n2 : nb l 2 = 128 + k % 64 := by rw [← hl]; exact nbc (by omega)
    have hn : l.length = 3 := by rw [← hl]; rfl
    simp only [gv, hn, lead, gacc, n0, n1, n2, Nat.zero_add, Nat.reduceSub, Nat.reduceAdd]
    omega
  · generalize hl : [UInt8.ofNat (240 + k / 262144), UInt8.ofNat (128 + k / 4096 % 64), UInt8.ofNat (128 + k / 64 % 64), UInt8.ofNat (128 + k % 64)] = l
    have n0 : nb l 0 = 240 + k / 262144 := by rw [← hl]; exact nbc (by omega)
    have n1 : nb l 1 = 128 + k / 4096 % 64 := by rw [← hl]; exact nbc (by omega)
    have n2 : nb l 2 = 128 + k / 64 % 64 := by rw [← hl]; exact nbc (by omega)
    have n3 : nb l 3 = 128 + k % 64 := by rw [← hl]; exact nbc (by omega)
    have hn : l.length = 4 := by rw [← hl]; rfl
    simp only [gv, hn, lead, gacc, n0, n1, n2, n3, Nat.zero_add, Nat.reduceSub, Nat.reduceAdd]
    omega
theorem putL_of {k : Nat} (hk : Scalar k) : putL (k : Int) = enc k := by
  unfold Scalar at hk
  unfold putL
  rw [if_pos (by omega), Int.toNat_natCast]
/-- A guess that is written just as it stands there is the scalar. -/
theorem hit {m : List UInt8} {n : Nat} (h1 : 1 ≤ n) (hn : n ≤ m.length) {c : Int} (h : putL c = m.take n) : ∃ k : Nat, c = k ∧ one m = (k, n) := by
  by_cases hc : 0 ≤ c ∧ c ≤ 1114111 ∧ (c < 55296 ∨ 57343 < c)
  · obtain ⟨k, rfl⟩ := Int.eq_ofNat_of_zero_le hc.1
    have hk : Scalar k := by unfold Scalar; omega
    rw [putL_of hk] at h
    exact ⟨k, rfl, one_of_take hk h.symm hn⟩
  · unfold putL at h
    rw [if_neg hc] at h
    have := congrArg List.length h
    rw [List.length_take, List.length_nil] at this
    omega
/-- Where no guess is, there is no scalar. -/
theorem miss {m : List UInt8} (h : ∀ n, 1 ≤ n → n ≤ 4 → n ≤ m.length → putL (gv (m.take n)) ≠ m.take n) : one m = (0, 0) := by
  by_cases h0 : (one m).2 = 0
  · have : (one m).2 = 0 → one m = (0, 0) := by
      unfold one
      split
      · intro e; cases e
      split
      · intro e; cases e
      split
      · intro e; cases e
      split
      · intro e; cases e
      · intro _; rfl
    exact this h0
  · exfalso
    obtain ⟨h1, h2, h3⟩ := one_bytes h0
    have hl := congrArg List.length h2
    rw [List.length_take, Nat.min_eq_left h3] at hl
    have h5 := enc_len (c := (one m).1)
    refine h (one m).2 (by omega) (by omega) h3 ?_
    rw [h2, gv_enc h1, putL_of h1]
theorem extract_mid (s : ByteArray) (k n : Nat) : (s.extract k (k + n)).data.toList = (s.data.toList.drop k).take n := by
  rw [ByteArray.data_extract, Array.toList_extract, List.extract_eq_take_drop, Nat.add_sub_cancel_left]
set_option maxHeartbeats 1000000 in
set_option maxRecDepth 100000 in
theorem rone_any {w : World} {s : ByteArray} {k : Nat} (hs : s.size < 4611686018427387904) (hk : k < s.size) :
    Calls Tryz.prog 87 #[.string s, .int .i64 k] w fun e w' => e = .returned (.tuple #[.int .i64 (one (s.data.toList.drop k)).1, .int .i64 (one (s.data.toList.drop k)).2]) ∧ Below w.heap.size w w' := by
  have hlen : s.data.toList.length = s.size := by simp
  have hml : (s.data.toList.drop k).length = s.size - k := by rw [List.length_drop, hlen]
  go_enter Tryz.func87, Tryz.ntmps87
  go_wp2_with fail
  go_loopw [6] (fun i wr => ∃ n : Nat, 1 ≤ n ∧ n ≤ 5 ∧ n ≤ s.size - k + 1 ∧ i = .int .i64 n ∧ (∀ j, 1 ≤ j → j < n → putL (gv ((s.data.toList.drop k).take j)) ≠ (s.data.toList.drop k).take j) ∧ Below w.heap.size w wr) (fun i _ => 5 - (intOf i).toNat)
  case atStart => exact ⟨1, by omega, by omega, by omega, rfl, fun j h1 h2 => by omega, Below.refl _ _⟩
  case round =>
    obtain ⟨n, hn1, hn5, hnl, rfl, hno, hbel⟩ := hrel
    by_cases h5 : n ≤ 4
    · have h5' : (n : Int) ≤ 4 := by omega
      by_cases hle : k + n ≤ s.size
      · have hnm : n ≤ (s.data.toList.drop k).length := by rw [hml]; omega
        have hn5' : n + 1 ≤ 5 := Nat.succ_le_succ h5
        have hnl' : n + 1 ≤ s.size - k + 1 := by omega
        have hle' : (k : Int) + (n : Int) ≤ (s.size : Int) := by omega
        have hsz : (s.extract k (k + n)).size = n := by simp; omega
        have hg := guess_any (w := wr) (s := s.extract k (k + n)) (by omega) (by omega)
        rw [extract_mid] at hg
        obtain ⟨g1, g2⟩ := gv_range (t := (s.data.toList.drop k).take n) (by rw [List.length_take, hml]; omega) (by rw [List.length_take, hml]; omega)
        go_wp2_with fail
        refine hg.mono ?_
        rintro e w1 ⟨rfl, b1⟩
        go_wp2_with fail
        have hsl : ∀ wx, (Instr.slice 9 (.string s) (some (.int .i64 k)) (some (.int .i64 ((k : Int) + (n : Int)))) none).run Tryz.prog wx = .ok (.string (s.extract k (k + n))) wx := fun wx => by
          have := run_slice_string (P := Tryz.prog) wx 9 s .i64 .i64 k ((k : Int) + n) Tryz.underlying9 (by omega) (by omega) (by omega)
          rw [this]
          rfl
        have q1 : (0 : Int) ≤ (k : Int) + (n : Int) := by omega
        have q2 : (k : Int) ≤ (k : Int) + (n : Int) := by omega
        have q3 : ((k : Int) + (n : Int)).toNat = k + n := by omega
        have hw : IntKind.i64.wrap ((k : Int) + (n : Int)) = (k : Int) + (n : Int) := by
          simp only [IntKind.wrap, IntKind.signed, IntKind.bits]
          simp
          omega
        have hw' : wrap64 ((k : Int) + (n : Int)) = (k : Int) + (n : Int) := by unfold wrap64; omega
        have hS := hbel.trans (b1.mono hbel.size)
        go_region_held3 (fun wx => Below w.heap.size w wx) (first | assumption | exact below_drewN hS 1 | exact Below.trans (by assumption) (Below.mono (by assumption) (Below.size (by assumption)))) (first | (go_at_call 121; refine (rput_any g1 g2).mono ?_; rintro e w2 ⟨rfl, b2⟩))
        have hx : (s.extract k (k + n)).toList = (s.data.toList.drop k).take n := by rw [ByteArray.toList_eq, extract_mid]
        by_cases hh : putL (gv ((s.data.toList.drop k).take n)) = (s.data.toList.drop k).take n
        · have hb : (putL (gv ((s.data.toList.drop k).take n)) == (s.extract k (k + n)).toList) = true := by rw [hx, hh]; exact beq_self_eq_true _
          obtain ⟨c, hc, ho⟩ := hit hn1 hnm hh
          rw [hb]
          clear hb hx hh
          go_wp2_with fail
          go_ret2
          exact ⟨by rw [ho, ← hc]; rfl, by assumption⟩
        · have hb : (putL (gv ((s.data.toList.drop k).take n)) == (s.extract k (k + n)).toList) = false := by rw [hx]; exact beq_false_of_ne hh
          rw [hb]
          clear hb hx
          go_wp2_with fail
          go_roundw
          case rel => exact ⟨n + 1, Nat.le_add_left _ _, hn5', hnl', by go_num, fun j h1 h2 => (Nat.lt_succ_iff_lt_or_eq.1 h2).elim (fun h => hno j h1 h) (fun h => h ▸ hh), by assumption⟩
          case measure => simp [intOf]; omega
      · have q : decide ((k : Int) + (n : Int) ≤ (s.size : Int)) = false := by simp; omega
        have ho := miss (m := s.data.toList.drop k) (fun j h1 h2 h3 => hno j h1 (by omega))
        go_wp2_with fail
        go_ret2
        exact ⟨by rw [ho]; rfl, hbel⟩
    · obtain rfl : n = 5 := by omega
      have ho := miss (m := s.data.toList.drop k) (fun j h1 h2 h3 => hno j h1 (by omega))
      go_wp2_with fail
      go_ret2
      exact ⟨by rw [ho]; rfl, hbel⟩
end Go.Proofs.YtlfbnfphocpgeaaGreatDoor.Utf
namespace Go.Proofs.YtlfbnfphocpgeaaGreatDoor.Utf
open Go.RowKit Kit
set_option maxHeartbeats 1000000 in
set_option maxRecDepth 100000 in
theorem rbad_any {w : World} {s : ByteArray} (hs : s.size < 4611686018427387904) :
    Calls Tryz.prog 119 #[.string s] w fun e w' => e = .returned (.int .i64 (badI s.data.toList)) ∧ Below w.heap.size w w' := by
  have hlen : s.data.toList.length = s.size := by simp
  go_enter Tryz.func119, Tryz.ntmps119
  go_wp2_with fail
  go_loopw [3] (fun i wr => ∃ k : Nat, k ≤ s.size ∧ i = .int .i64 k ∧ (scan k (s.data.toList.drop k)).2 = bad s.data.toList ∧ Below w.heap.size w wr) (fun i _ => s.size - (intOf i).toNat)
  case atStart => exact ⟨0, Nat.zero_le _, rfl, rfl, Below.refl _ _⟩
  case round =>
    obtain ⟨k, hk, rfl, hsc, hbel⟩ := hrel
    by_cases hlt : k < s.size
    · have hks : (k : Int) < (s.size : Int) := by omega
      have hd := rone_any (w := wr) hs hlt
      rcases scan_at (l := s.data.toList) (by omega : k < s.data.toList.length) with ⟨h0, hr⟩ | ⟨h0, h1, h2, hr⟩
      · rw [hr] at hsc
        go_wp2_with fail
        refine hd.mono ?_
        rintro e w1 ⟨rfl, b1⟩
        go_wp2_with fail
        go_ret
        exact ⟨by rw [badI, ← hsc]; rfl, hbel.trans (b1.mono hbel.size)⟩
      · rw [hr] at hsc
        go_wp2_with fail
        refine hd.mono ?_
        rintro e w1 ⟨rfl, b1⟩
        go_wp2_with fail
        go_roundw
        case rel => exact ⟨k + (one (s.data.toList.drop k)).2, by omega, by go_num, hsc, hbel.trans (b1.mono hbel.size)⟩
        case measure => simp [intOf]; omega
    · obtain rfl : k = s.size := by omega
      go_wp2_with fail
      go_ret
      have e : s.data.toList.drop s.size = [] := List.drop_eq_nil_of_le (by omega)
      rw [e, scan_nil] at hsc
      exact ⟨by rw [badI, ← hsc]; rfl, hbel⟩
set_option maxRecDepth 100000 in
theorem rvalid_any {w : World} {s : ByteArray} (hs : s.size < 4611686018427387904) :
    Calls Tryz.prog 84 #[.string s] w fun e w' => e = .returned (.bool (decide (badI s.data.toList < 0))) ∧ Below w.heap.size w w' := by
  have hb := rbad_any (w := w) hs
  go_enter Tryz.func84, Tryz.ntmps84
  go_wp2_with fail
  refine hb.mono ?_
  rintro e w1 ⟨rfl, b1⟩
  go_wp2_with fail
  go_ret
  exact ⟨rfl, b1⟩
end Go.Proofs.YtlfbnfphocpgeaaGreatDoor.Utf
namespace Go.Proofs.YtlfbnfphocpgeaaGreatDoor.Bld
open Go.RowKit Kit Txt
theorem byte_any {B b : Nat} {l : List UInt8} {c : UInt8} {x : Int} {w : World} (h : Bld B b l w) (hl : l.length < 1000000) (hx : x = (c.toNat : Int)) :
    Calls Tryz.prog 107 #[.pointer (some ⟨b, 0, none⟩), .int .u8 x] w fun e w' => e = .returned .nilIface ∧ Bld B b (l ++ [c]) w' ∧ Below B w w' := by
  subst hx
  refine (Tryz.Builder_WriteByte B b (Lib.byteCells l) (c.toNat : Int) w h.2 (by rw [Lib.byteCells_length]; omega) h.1).mono ?_
  rintro e w' ⟨he, hb, k⟩
  refine ⟨he, ⟨Nat.le_trans h.1 k.size, .inr ?_⟩, k⟩
  rw [← cells_app]
  exact hb
end Go.Proofs.YtlfbnfphocpgeaaGreatDoor.Bld
namespace Go.Proofs.YtlfbnfphocpgeaaGreatDoor.Quo
open Go.RowKit Kit Txt Utf Bld
/-- What the world must hold: utf's table. -/
def Ok (w : World) : Prop := Laid w
theorem Ok.below {w w' : World} (h : Ok w) (k : Below w.heap.size w w') : Ok w' := Laid.below h k (Laid.lt h)
def hexL : List UInt8 := [48, 49, 50, 51, 52, 53, 54, 55, 56, 57, 97, 98, 99, 100, 101, 102]
theorem esc_how : ∀ x : Fin 256, (AsIs x.val ∧ esc (UInt8.ofNat x.val) = [UInt8.ofNat x.val]) ∨
    (¬ AsIs x.val ∧ ∃ i : Fin 8, Lib.indexByte meansL (UInt8.ofNat x.val) = (i.val : Int) ∧ esc (UInt8.ofNat x.val) = [92, signsL.getD i.val 0]) ∨
    (¬ AsIs x.val ∧ Lib.indexByte meansL (UInt8.ofNat x.val) = -1 ∧ esc (UInt8.ofNat x.val) = [92, 117, 48, 48, hexL.getD (x.val / 16) 0, hexL.getD (x.val % 16) 0]) := by decide +kernel
theorem esc_cases (c : UInt8) : (AsIs c.toNat ∧ esc c = [c]) ∨ (¬ AsIs c.toNat ∧ ∃ i : Nat, i < 8 ∧ Lib.indexByte meansL c = (i : Int) ∧ esc c = [92, signsL.getD i 0]) ∨
    (¬ AsIs c.toNat ∧ Lib.indexByte meansL c = -1 ∧ esc c = [92, 117, 48, 48, hexL.getD (c.toNat / 16) 0, hexL.getD (c.toNat % 16) 0]) := by
  have h := esc_how ⟨c.toNat, c.toNat_lt⟩
  dsimp only at h
  rw [show UInt8.ofNat c.toNat = c from UInt8.ofNat_toNat] at h
  exact h.imp id (Or.imp (fun ⟨h0, i, h1, h2⟩ => ⟨h0, i.val, i.isLt, h1, h2⟩) id)
theorem idx8 {l : List UInt8} {i : Nat} (h : i < l.length) (wx : World) : (Instr.index 9 (.string (txt l)) (.int .u8 (i : Int))).run Tryz.prog wx = .ok (.int .u8 ((l.getD i 0).toNat : Int)) wx := by
  have hs := txt_size l
  rw [run_index_string wx 9 (txt l) .u8 i Tryz.underlying9, dif_pos ⟨by omega, by omega⟩]
  congr 3
  rw [List.getD_eq_getElem?_getD, List.getElem?_eq_getElem h]
  rfl
theorem idx64 {l : List UInt8} {i : Nat} (h : i < l.length) (wx : World) : (Instr.index 9 (.string (txt l)) (.int .i64 (i : Int))).run Tryz.prog wx = .ok (.int .u8 ((l.getD i 0).toNat : Int)) wx := idx h wx
theorem and15 : ∀ x : Nat, x < 256 → bits .and .u8 (x : Int) 15 = ((x % 16 : Nat) : Int) := by decide +kernel
theorem flat_step {l : List UInt8} {k : Nat} (h : k < l.length) : (l.take (k + 1)).flatMap esc = (l.take k).flatMap esc ++ esc l[k] := by
  rw [List.take_succ_eq_append_getElem h, List.flatMap_append]
  simp
set_option maxRecDepth 100000 in
set_option maxHeartbeats 4000000 in
theorem qprint_any {w : World} (ho : Ok w) {l : List UInt8} (hl : l.length < 100000) :
    Calls Tryz.prog 111 #[.string (txt l)] w fun e w' => e = .returned (.tuple #[.string (txt (if bad l = none then print l else [])), .int .i64 ((if bad l = none then 0 else 7 : Nat) : Int)]) ∧ Below w.heap.size w w' := by
  have hz := txt_size l
  have ht0 : (⟨#[]⟩ : ByteArray) = txt [] := rfl
  have hv := valid_any (w := w) (s := txt l) (by omega) ho
  rw [txt_list, decide_eq_decide.2 (badI_neg l)] at hv
  by_cases hb : bad l = none
  case neg =>
    rw [decide_eq_false hb] at hv
    simp only [if_neg hb]
    clear hb
    go_enter Tryz.func111, Tryz.ntmps111
    go_wp2_with fail
    refine hv.mono ?_
    rintro _ w1 ⟨rfl, k1⟩
    go_wp2_with fail
    go_ret2
    exact ⟨rfl, k1⟩
  rw [decide_eq_true hb] at hv
  simp only [if_pos hb]
  clear hb
  have hby := fun (B : Nat) (wx : World) (a : List UInt8) (c : UInt8) (x : Int) (h : Bld B B a wx) (ha : a.length < 1000000) (hx : x = (c.toNat : Int)) => byte_any h ha (c := c) hx
  have hst := fun (B : Nat) (wx : World) (a b : List UInt8) (h : Bld B B a wx) (ha : a.length < 1000000) (hb : b.length < 1000000) => str_any h ha (m := b) hb
  have hsg := fun (B : Nat) (wx : World) (a : List UInt8) (h : Bld B B a wx) => string_any h
  have hpr : print l = 34 :: (l.flatMap esc ++ [34]) := rfl
  have hP := Lib.hid hpr
  clear hpr
  go_enter Tryz.func111, Tryz.ntmps111
  go_wp2_with fail
  refine hv.mono ?_
  rintro _ w1 ⟨rfl, k1⟩
  have b0 := Bld.new w1
  have q0 : Below w.heap.size w (w1.alloc (.cells #[.pointer none, .slice none 0 0] 62)) := k1.alloc k1.size _
  go_wp2_with fail
  refine (hby _ _ _ 34 _ b0 (by simp) rfl).mono ?_
  rintro _ w2 ⟨rfl, b2, k2⟩
  have q2 := q0.trans (k2.mono k1.size)
  have hBw := k1.size
  rw [List.nil_append] at b2
  go_wp2_with fail
  go_loopw [14] (fun i wr => ∃ k : Nat, k ≤ l.length ∧ i = .int .i64 (k : Int) ∧ Bld w1.heap.size w1.heap.size (34 :: (l.take k).flatMap esc) wr ∧ Below w.heap.size w wr ∧ ((l.take k).flatMap esc).length ≤ 6 * k) (fun i _ => l.length - (intOf i).toNat)
  case atStart => exact ⟨0, Nat.zero_le _, rfl, b2, q2, by simp⟩
  case round =>
    clear b2 q2 b0 q0 hv
    obtain ⟨k, hk, rfl, hB, hq, hlen⟩ := hrel
    by_cases hlt : k < l.length
    · have hks : (k : Int) < (l.length : Int) := by omega
      have hix := idx hlt
      rw [nb_get hlt] at hix
      have hfs := flat_step hlt
      have hc := esc_cases l[k]
      have hai := fun wx => asItIs_any (w := wx) (c := (l[k]).toNat) (x := ((l[k]).toNat : Int)) rfl
      have hib := fun wx => index_any (w := wx) meansL l[k]
      have tm : (⟨#[34, 92, 47, 8, 12, 10, 13, 9]⟩ : ByteArray) = txt meansL := rfl
      have ts : (⟨#[34, 92, 47, 98, 102, 110, 114, 116]⟩ : ByteArray) = txt signsL := rfl
      have th : (⟨#[48, 49, 50, 51, 52, 53, 54, 55, 56, 57, 97, 98, 99, 100, 101, 102]⟩ : ByteArray) = txt hexL := rfl
      have tu : (⟨#[92, 117, 48, 48]⟩ : ByteArray) = txt [92, 117, 48, 48] := rfl
      have hlt8 : (l[k]).toNat < 256 := (l[k]).toNat_lt
      rcases hc with ⟨h1, h2⟩ | ⟨h1, i, hi, h2, h3⟩ | ⟨h1, h2, h3⟩
      · simp only [decide_eq_true h1] at hai
        rw [h2] at hfs
        have hF := Lib.hid hfs
        clear hfs h1 h2 hib tm ts th tu hst
        generalize l[k] = c at *
        go_wp2_with fail
        refine (hai _).mono ?_
        rintro _ w3 ⟨rfl, rfl⟩
        go_wp2_with fail
        refine (hby _ _ _ c _ hB (by rw [List.length_cons]; omega) rfl).mono ?_
        rintro _ w4 ⟨rfl, b4, k4⟩
        go_wp2_with fail
        go_roundw
        case rel => exact ⟨k + 1, by omega, by go_num, by rw [hF.out]; exact b4, hq.trans (k4.mono hBw), by rw [hF.out, List.length_append, List.length_singleton]; omega⟩
        case measure => simp [intOf]; omega
      · simp only [decide_eq_false h1] at hai
        simp only [h2] at hib
        rw [h3] at hfs
        have hF := Lib.hid hfs
        have hsi := fun wx => idx64 (l := signsL) (i := i) hi wx
        have d0 : (0 : Int) ≤ (i : Int) := by omega
        clear hfs h1 h2 h3 th tu hst
        generalize signsL.getD i 0 = sg at *
        generalize l[k] = c at *
        go_wp2_with fail
        refine (hai _).mono ?_
        rintro _ w3 ⟨rfl, rfl⟩
        go_wp2_with fail
        refine (hib _).mono ?_
        rintro _ w3 ⟨rfl, rfl⟩
        go_wp2_with fail
        refine (hby _ _ _ 92 _ hB (by rw [List.length_cons]; omega) rfl).mono ?_
        rintro _ w4 ⟨rfl, b4, k4⟩
        go_wp2_with fail
        refine (hby _ _ _ sg _ b4 (by rw [List.length_append, List.length_cons, List.length_singleton]; omega) rfl).mono ?_
        rintro _ w5 ⟨rfl, b5, k5⟩
        go_wp2_with fail
        go_roundw
        case rel => exact ⟨k + 1, by omega, by go_num, by rw [hF.out]; rw [List.append_assoc] at b5; exact b5, hq.trans ((k4.trans k5).mono hBw), by rw [hF.out, List.length_append]; show _ + 2 ≤ _; omega⟩
        case measure => simp [intOf]; omega
      · simp only [decide_eq_false h1] at hai
        simp only [h2] at hib
        rw [h3] at hfs
        have hF := Lib.hid hfs
        have hi1 := fun wx => idx8 (l := hexL) (i := (l[k]).toNat / 16) (by show _ < 16; omega) wx
        have hi2 := fun wx => idx8 (l := hexL) (i := (l[k]).toNat % 16) (by show _ < 16; omega) wx
        have ha := and15 (l[k]).toNat hlt8
        have hd : ((l[k]).toNat : Int) / 16 = (((l[k]).toNat / 16 : Nat) : Int) := by omega
        clear hfs h1 h2 h3 ts
        generalize hexL.getD ((l[k]).toNat / 16) 0 = g1 at *
        generalize hexL.getD ((l[k]).toNat % 16) 0 = g2 at *
        generalize (l[k]).toNat / 16 = n1 at *
        generalize (l[k]).toNat % 16 = n2 at *
        generalize l[k] = c at *
        go_wp2_with fail
        refine (hai _).mono ?_
        rintro _ w3 ⟨rfl, rfl⟩
        go_wp2_with fail
        refine (hib _).mono ?_
        rintro _ w3 ⟨rfl, rfl⟩
        go_wp2_with fail
        refine (hst _ _ _ [92, 117, 48, 48] hB (by rw [List.length_cons]; omega) (by decide)).mono ?_
        rintro _ w4 ⟨rfl, b4, k4⟩
        go_wp2_with fail
        refine (hby _ _ _ g1 _ b4 (by rw [List.length_append, List.length_cons]; show _ + 4 < _; omega) rfl).mono ?_
        rintro _ w5 ⟨rfl, b5, k5⟩
        go_wp2_with fail
        refine (hby _ _ _ g2 _ b5 (by rw [List.length_append, List.length_append, List.length_cons]; show _ + 4 + 1 < _; omega) rfl).mono ?_
        rintro _ w6 ⟨rfl, b6, k6⟩
        go_wp2_with fail
        go_roundw
        case rel => exact ⟨k + 1, by omega, by go_num, by rw [hF.out]; rw [List.append_assoc, List.append_assoc] at b6; exact b6, hq.trans (((k4.trans k5).trans k6).mono hBw), by rw [hF.out, List.length_append]; show _ + 6 ≤ _; omega⟩
        case measure => simp [intOf]; omega
    · obtain rfl : k = l.length := by omega
      rw [List.take_of_length_le (Nat.le_refl _)] at hB hlen
      go_wp2_with fail
      refine (hby _ _ _ 34 _ hB (by rw [List.length_cons]; omega) rfl).mono ?_
      rintro _ w4 ⟨rfl, b4, k4⟩
      go_wp2_with fail
      refine (hsg _ _ _ b4).mono ?_
      rintro _ w5 ⟨rfl, k5⟩
      go_wp2_with fail
      go_ret2
      rw [hP.out]
      exact ⟨rfl, hq.trans ((k4.trans k5).mono hBw)⟩
end Go.Proofs.YtlfbnfphocpgeaaGreatDoor.Quo
namespace Go.Proofs.YtlfbnfphocpgeaaGreatDoor.Tre
open Go.RowKit Kit Txt
open Num (Dec zero)
theorem deeps_snoc : ∀ (a : List Val) (v : Val), deeps (a ++ [v]) = max (deeps a) (deep v)
  | [], v => by simp [deeps]
  | x :: a, v => by rw [List.cons_append, deeps, deeps, deeps_snoc a v, Nat.max_assoc]
theorem deeps_take {vs : List Val} {j : Nat} (h : j < vs.length) : deeps (vs.take (j + 1)) = max (deeps (vs.take j)) (deep vs[j]) := by
  rw [List.take_succ_eq_append_getElem h, deeps_snoc]
theorem deeps_take_le (vs : List Val) (j : Nat) : deeps (vs.take j) ≤ deeps vs := deeps_le.2 fun v hv => deeps_le.1 (Nat.le_refl _) v (List.mem_of_mem_take hv)
set_option maxRecDepth 100000 in
set_option maxHeartbeats 4000000 in
theorem rdeep_any : ∀ (v : Val) (w : World) (u : Value), deep v ≤ 1000000 → HoldV w u v → Calls Tryz.prog 34 #[u] w fun e w' => e = .returned (.int .i64 (deep v)) ∧ Below w.heap.size w w' := by
  refine ind1 fun v ih w u hd h => ?_
  obtain ⟨k, b, n, s, ks, vs⟩ := v
  obtain ⟨cs, rfl, hc⟩ := h
  rw [Hold] at hc
  obtain ⟨uk, a, c, rfl, hk, hcap, hmax, hv⟩ := hc
  show Calls Tryz.prog 34 #[.agg #[.int .i64 k, .bool b, .bool n.neg, .string (txt n.dig), .int .i64 n.exp, .string (txt s), uk, .slice a vs.length c]] w _
  rw [deep] at hd ⊢
  have hA := World.alloc_heap_new w (.cells #[.int .i64 k, .bool b, .bool n.neg, .string (txt n.dig), .int .i64 n.exp, .string (txt s), uk, .slice a vs.length c] 29)
  have bA : Below w.heap.size w (w.alloc (.cells #[.int .i64 k, .bool b, .bool n.neg, .string (txt n.dig), .int .i64 n.exp, .string (txt s), uk, .slice a vs.length c] 29)) := (Below.refl _ w).alloc (Nat.le_refl _) _
  by_cases h56 : k = 5 ∨ k = 6
  · rw [if_pos h56] at hd ⊢
    have ih' : ∀ x ∈ vs, ∀ (w : World) (u : Value), HoldV w u x → Calls Tryz.prog 34 #[u] w fun e w' => e = .returned (.int .i64 (deep x)) ∧ Below w.heap.size w w' := fun x hx w u h => ih x hx w u (Nat.le_trans (deeps_le.1 (Nat.le_refl _) x hx) (by omega)) h
    clear ih hk
    rcases h56 with rfl | rfl
    all_goals
      go_enter Tryz.func34, Tryz.ntmps34
      go_wp2_with fail
      go_loopw [3, 4] (fun x y wr => ∃ j m : Nat, j ≤ vs.length ∧ x = .int .i64 m ∧ y = .int .i64 j ∧ m = deeps (vs.take j) ∧ ∃ k, wr.heap[w.heap.size]? = some (.cells #[.int .i64 k, .bool b, .bool n.neg, .string (txt n.dig), .int .i64 n.exp, .string (txt s), uk, .slice a vs.length c] 29 (0, 0)) ∧ Below w.heap.size w wr) (fun _ y _ => vs.length - (intOf y).toNat)
      case atStart => exact ⟨0, 0, Nat.zero_le _, rfl, rfl, rfl, _, hA, bA⟩
      case round =>
        obtain ⟨j, m, hj, rfl, rfl, hm, k0, hB, bB⟩ := hrel
        obtain ⟨c0, c1, c2, c3, c4, c5, c6, c7⟩ := eight hB
        have hml := deeps_take_le vs j
        rw [← hm] at hml
        have hbl := lt_of_heap hB
        by_cases hlt : j < vs.length
        · have hlt' : (j : Int) < (vs.length : Int) := by omega
          rcases hv with rfl | ⟨g, off, rfl, hg, hx⟩
          · exact absurd hlt (Nat.not_lt_zero _)
          obtain ⟨cs8, h8, hh⟩ := Holds.at hx (List.getElem?_eq_getElem hlt)
          have hnext := deeps_take hlt
          have hn2 := deeps_take_le vs (j + 1)
          rw [← hm] at hnext
          have hcall := ih' vs[j] (List.getElem_mem hlt)
          generalize vs[j] = x at *
          have h8' := h8.below hg bB
          have hh' := Hold.below bB x hh
          clear hh h8
          obtain ⟨k', b', n', s', ks', vs'⟩ := x
          have hh2 := hh'
          rw [Hold] at hh2
          obtain ⟨uk', a', c', rfl, -, -, -, -⟩ := hh2
          obtain ⟨d0, d1, d2, d3, d4, d5, d6, d7⟩ := h8'.cells
          have hcall' := hcall wr (.agg #[.int .i64 k', .bool b', .bool n'.neg, .string (txt n'.dig), .int .i64 n'.exp, .string (txt s'), uk', .slice a' vs'.length c']) ⟨_, rfl, hh'⟩
          clear hh' h8' hcall ih'
          generalize deep ⟨k', b', n', s', ks', vs'⟩ = dx at *
          have hgl := Nat.lt_of_lt_of_le hg bB.size
          have wk : IntKind.i64.wrap ((j : Int) + 1) = (j : Int) + 1 := by simp only [IntKind.wrap, IntKind.signed, IntKind.bits]; simp; omega
          go_wp2_with fail
          refine hcall'.mono ?_
          rintro e w1 ⟨rfl, k1⟩
          have b1 := bB.trans (k1.mono bB.size)
          have hB1 := (k1.block _ hbl).trans hB
          by_cases hgt : m < dx
          · have hgt' : (m : Int) < (dx : Int) := by omega
            go_wp2_with fail
            go_roundw
            case rel => exact ⟨j + 1, dx, by omega, rfl, by go_num, by rw [hnext]; omega, _, hB1, b1⟩
            case measure => simp [intOf]; omega
          · have hgt' : decide (m < dx) = false := by simp; omega
            go_wp2_with fail
            go_roundw
            case rel => exact ⟨j + 1, m, by omega, by first | rfl | rw [hm], by go_num, by rw [hnext]; omega, _, hB1, b1⟩
            case measure => simp [intOf]; omega
        · obtain rfl : j = vs.length := by omega
          rw [List.take_length] at hm
          have wm : IntKind.i64.wrap ((m : Int) + 1) = (m : Int) + 1 := by simp only [IntKind.wrap, IntKind.signed, IntKind.bits]; simp; omega
          go_wp2_with fail
          go_ret
          exact ⟨by rw [← hm]; simp, bB⟩
  · rw [if_neg h56]
    have e5 : (k == 5) = false := by simp; omega
    have e6 : (k == 6) = false := by simp; omega
    go_enter Tryz.func34, Tryz.ntmps34
    go_wp2_with fail
    go_ret
    exact ⟨rfl, bA⟩
end Go.Proofs.YtlfbnfphocpgeaaGreatDoor.Tre
namespace Go.Proofs.YtlfbnfphocpgeaaGreatDoor.Tre
open Go.RowKit Kit Txt
open Num (Dec zero)
set_option maxRecDepth 100000 in
set_option maxHeartbeats 4000000 in
/-- F: how much a value may be, for own; its kids too. -/
theorem rwhole_of {F : Val → Prop} (hF : ∀ v, F v → ∀ x ∈ v.kids, F x) (hown : ∀ (v : Val) (w : World) (u : Value), F v → HoldV w u v → Calls Tryz.prog 55 #[u] w fun e w' => (∃ r : Bool, e = .returned (.bool r) ∧ (r = true ↔ Own v)) ∧ Below w.heap.size w w') :
    ∀ (v : Val) (w : World) (u : Value), F v → HoldV w u v → Calls Tryz.prog 35 #[u] w fun e w' => (∃ r : Bool, e = .returned (.bool r) ∧ (r = true ↔ Whole v)) ∧ Below w.heap.size w w' := by
  refine ind1 fun v ih w u hf h => ?_
  have hkF := hF v hf
  have ho := fun wx (hb : Below w.heap.size w wx) => hown v wx u hf (h.below hb)
  clear hown hF
  obtain ⟨k, b, n, s, ks, vs⟩ := v
  have hwi := whole_iff (v := ⟨k, b, n, s, ks, vs⟩)
  obtain ⟨cs, rfl, hc⟩ := h
  rw [Hold] at hc
  obtain ⟨uk, a, c, rfl, hk, hcap, hmax, hv⟩ := hc
  have ho' : ∀ wx, Below w.heap.size w wx → Calls Tryz.prog 55 #[.agg #[.int .i64 k, .bool b, .bool n.neg, .string (txt n.dig), .int .i64 n.exp, .string (txt s), uk, .slice a vs.length c]] wx fun e w' => (∃ r : Bool, e = .returned (.bool r) ∧ (r = true ↔ Own ⟨k, b, n, s, ks, vs⟩)) ∧ Below wx.heap.size wx w' := ho
  show Calls Tryz.prog 35 #[.agg #[.int .i64 k, .bool b, .bool n.neg, .string (txt n.dig), .int .i64 n.exp, .string (txt s), uk, .slice a vs.length c]] w _
  have hA := World.alloc_heap_new w (.cells #[.int .i64 k, .bool b, .bool n.neg, .string (txt n.dig), .int .i64 n.exp, .string (txt s), uk, .slice a vs.length c] 29)
  have bA : Below w.heap.size w (w.alloc (.cells #[.int .i64 k, .bool b, .bool n.neg, .string (txt n.dig), .int .i64 n.exp, .string (txt s), uk, .slice a vs.length c] 29)) := (Below.refl _ w).alloc (Nat.le_refl _) _
  have ih' : ∀ x ∈ vs, ∀ (w : World) (u : Value), HoldV w u x → Calls Tryz.prog 35 #[u] w fun e w' => (∃ r : Bool, e = .returned (.bool r) ∧ (r = true ↔ Whole x)) ∧ Below w.heap.size w w' := fun x hx w u h => ih x hx w u (hkF x hx) h
  have HW := Lib.hid hwi
  clear ih hk ho hkF hwi hf
  go_enter Tryz.func35, Tryz.ntmps35
  go_wp2_with fail
  refine (ho' _ bA).mono ?_
  rintro e w1 ⟨⟨r, rfl, hr⟩, k1⟩
  have b1 := bA.trans (k1.mono bA.size)
  have hA1 := (k1.block _ (lt_of_heap hA)).trans hA
  clear hA bA ho' k1
  cases r with
  | false =>
    have hno : ¬ Whole ⟨k, b, n, s, ks, vs⟩ := fun e => by have := hr.2 (HW.out.1 e).1; cases this
    go_wp2_with fail
    go_ret
    exact ⟨⟨false, rfl, by simp; exact hno⟩, b1⟩
  | true =>
    have HO := Lib.hid (hr.1 rfl)
    clear hr
    go_wp2_with fail
    go_loopw [3] (fun y wr => ∃ j : Nat, j ≤ vs.length ∧ y = .int .i64 j ∧ (∀ x ∈ vs.take j, Whole x) ∧ wr.heap[w.heap.size]? = some (.cells #[.int .i64 k, .bool b, .bool n.neg, .string (txt n.dig), .int .i64 n.exp, .string (txt s), uk, .slice a vs.length c] 29 (0, 0)) ∧ Below w.heap.size w wr) (fun y _ => vs.length - (intOf y).toNat)
    case atStart => exact ⟨0, Nat.zero_le _, rfl, fun x hx => absurd hx (by simp), hA1, b1⟩
    case round =>
      obtain ⟨j, hj, rfl, hall, hB, bB⟩ := hrel
      obtain ⟨c0, c1, c2, c3, c4, c5, c6, c7⟩ := eight hB
      have hbl := lt_of_heap hB
      have HL := Lib.hid hall
      clear hall
      by_cases hlt : j < vs.length
      · have hlt' : (j : Int) < (vs.length : Int) := by omega
        rcases hv with rfl | ⟨g, off, rfl, hg, hx⟩
        · exact absurd hlt (Nat.not_lt_zero _)
        obtain ⟨cs8, h8, hh⟩ := Holds.at hx (List.getElem?_eq_getElem hlt)
        have hcall := ih' vs[j] (List.getElem_mem hlt)
        have HM := Lib.hid (show vs[j] ∈ vs from List.getElem_mem hlt)
        have HT := Lib.hid (List.take_succ_eq_append_getElem hlt)
        generalize vs[j] = x at *
        have h8' := h8.below hg bB
        have hh' := Hold.below bB x hh
        clear hh h8
        have hh2 := hh'
        obtain ⟨k', b', n', s', ks', vs'⟩ := x
        rw [Hold] at hh2
        obtain ⟨uk', a', c', rfl, -, -, -, -⟩ := hh2
        obtain ⟨d0, d1, d2, d3, d4, d5, d6, d7⟩ := h8'.cells
        have hcall' := hcall wr (.agg #[.int .i64 k', .bool b', .bool n'.neg, .string (txt n'.dig), .int .i64 n'.exp, .string (txt s'), uk', .slice a' vs'.length c']) ⟨_, rfl, hh'⟩
        clear hh' h8' hcall ih'
        have hgl := Nat.lt_of_lt_of_le hg bB.size
        have wk : IntKind.i64.wrap ((j : Int) + 1) = (j : Int) + 1 := by simp only [IntKind.wrap, IntKind.signed, IntKind.bits]; simp; omega
        go_wp2_with fail
        refine hcall'.mono ?_
        rintro e w2 ⟨⟨r, rfl, hr⟩, k2⟩
        have b2 := bB.trans (k2.mono bB.size)
        have hB1 := (k2.block _ hbl).trans hB
        cases r with
        | false =>
          have hno : ¬ Whole ⟨k, b, n, s, ks, vs⟩ := fun e => by have := hr.2 ((HW.out.1 e).2 _ HM.out); cases this
          go_wp2_with fail
          go_ret
          exact ⟨⟨false, rfl, by simp; exact hno⟩, b2⟩
        | true =>
          have hall : ∀ x ∈ vs.take (j + 1), Whole x := fun x hx => by
            rw [HT.out] at hx
            rcases List.mem_append.1 hx with hx | hx
            · exact HL.out x hx
            · rw [List.mem_singleton.1 hx]
              exact hr.1 rfl
          have HL2 := Lib.hid hall
          clear hall hr
          go_wp2_with fail
          go_roundw
          case rel => exact ⟨j + 1, by omega, by go_num, HL2.out, hB1, b2⟩
          case measure => simp [intOf]; omega
      · obtain rfl : j = vs.length := by omega
        have hyes : Whole ⟨k, b, n, s, ks, vs⟩ := HW.out.2 ⟨HO.out, fun x hx => HL.out x (by rw [List.take_length]; exact hx)⟩
        go_wp2_with fail
        go_ret
        exact ⟨⟨true, rfl, by simp; exact hyes⟩, bB⟩
end Go.Proofs.YtlfbnfphocpgeaaGreatDoor.Tre
namespace Go.Proofs.YtlfbnfphocpgeaaGreatDoor.Tre
open Go.RowKit Kit Txt
open Num (Dec zero)
set_option maxRecDepth 100000 in
set_option maxHeartbeats 4000000 in
theorem rright_of {F : Val → Prop} (hF : ∀ v, F v → ∀ x ∈ v.kids, F x) (hown : ∀ (v : Val) (w : World) (u : Value), F v → HoldV w u v → Calls Tryz.prog 55 #[u] w fun e w' => (∃ r : Bool, e = .returned (.bool r) ∧ (r = true ↔ Own v)) ∧ Below w.heap.size w w')
    {v : Val} {w : World} {u : Value} (hf : F v) (hd : deep v ≤ 1000000) (h : HoldV w u v) : Calls Tryz.prog 19 #[u] w fun e w' => (∃ r : Bool, e = .returned (.bool r) ∧ (r = true ↔ Right v)) ∧ Below w.heap.size w w' := by
  have hw := fun wx (hb : Below w.heap.size w wx) => rwhole_of hF hown v wx u hf (h.below hb)
  have hdp := fun wx (hb : Below w.heap.size w wx) => rdeep_any v wx u hd (h.below hb)
  have HR := Lib.hid (show Right v ↔ deep v ≤ 64 ∧ Whole v from Iff.rfl)
  clear hown hF hf
  obtain ⟨k, b, n, s, ks, vs⟩ := v
  obtain ⟨cs, rfl, hc⟩ := h
  rw [Hold] at hc
  obtain ⟨uk, a, c, rfl, -, -, -, -⟩ := hc
  have hw' : ∀ wx, Below w.heap.size w wx → Calls Tryz.prog 35 #[.agg #[.int .i64 k, .bool b, .bool n.neg, .string (txt n.dig), .int .i64 n.exp, .string (txt s), uk, .slice a vs.length c]] wx fun e w' => (∃ r : Bool, e = .returned (.bool r) ∧ (r = true ↔ Whole ⟨k, b, n, s, ks, vs⟩)) ∧ Below wx.heap.size wx w' := hw
  have hd' : ∀ wx, Below w.heap.size w wx → Calls Tryz.prog 34 #[.agg #[.int .i64 k, .bool b, .bool n.neg, .string (txt n.dig), .int .i64 n.exp, .string (txt s), uk, .slice a vs.length c]] wx fun e w' => e = .returned (.int .i64 (deep ⟨k, b, n, s, ks, vs⟩)) ∧ Below wx.heap.size wx w' := hdp
  show Calls Tryz.prog 19 #[.agg #[.int .i64 k, .bool b, .bool n.neg, .string (txt n.dig), .int .i64 n.exp, .string (txt s), uk, .slice a vs.length c]] w _
  have hA := World.alloc_heap_new w (.cells #[.int .i64 k, .bool b, .bool n.neg, .string (txt n.dig), .int .i64 n.exp, .string (txt s), uk, .slice a vs.length c] 29)
  have bA : Below w.heap.size w (w.alloc (.cells #[.int .i64 k, .bool b, .bool n.neg, .string (txt n.dig), .int .i64 n.exp, .string (txt s), uk, .slice a vs.length c] 29)) := (Below.refl _ w).alloc (Nat.le_refl _) _
  clear hw hdp
  obtain ⟨D, hD⟩ : ∃ D, deep ⟨k, b, n, s, ks, vs⟩ = D := ⟨_, rfl⟩
  rw [hD] at hd
  simp only [hD] at hd'
  have HD := Lib.hid hD
  clear hD
  obtain ⟨c0, c1, c2, c3, c4, c5, c6, c7⟩ := eight hA
  by_cases h64 : D ≤ 64
  · have h64' : (D : Int) ≤ 64 := by omega
    go_enter Tryz.func19, Tryz.ntmps19
    go_wp2_with fail
    refine (hd' _ bA).mono ?_
    rintro e w1 ⟨rfl, k1⟩
    have b1 := bA.trans (k1.mono bA.size)
    have hA1 := (k1.block _ (lt_of_heap hA)).trans hA
    clear c0 c1 c2 c3 c4 c5 c6 c7 hA bA k1 hd'
    obtain ⟨c0, c1, c2, c3, c4, c5, c6, c7⟩ := eight hA1
    go_wp2_with fail
    refine (hw' _ b1).mono ?_
    rintro e w2 ⟨⟨r, rfl, hr⟩, k2⟩
    have b2 := b1.trans (k2.mono b1.size)
    have HQ := Lib.hid hr
    clear hr
    go_wp2_with fail
    go_ret
    refine ⟨⟨r, by simp, ?_⟩, b2⟩
    rw [HR.out, HD.out, HQ.out]
    exact ⟨fun e => ⟨h64, e⟩, fun e => e.2⟩
  · have h64' : decide ((D : Int) ≤ 64) = false := by simp; omega
    go_enter Tryz.func19, Tryz.ntmps19
    go_wp2_with fail
    refine (hd' _ bA).mono ?_
    rintro e w1 ⟨rfl, k1⟩
    have b1 := bA.trans (k1.mono bA.size)
    go_wp2_with fail
    go_ret
    refine ⟨⟨false, by simp, ?_⟩, b1⟩
    rw [HR.out, HD.out]
    exact ⟨fun e => (by cases e), fun e => absurd e.1 h64⟩
end Go.Proofs.YtlfbnfphocpgeaaGreatDoor.Tre
namespace Go.Proofs.YtlfbnfphocpgeaaGreatDoor.Tre
open Go.RowKit Kit Txt
open Num (Dec zero)
/-- A Boolean that tells whether p holds. -/
def Tells (p : Prop) (w : World) (e : Ending) (w' : World) : Prop := (∃ r : Bool, e = .returned (.bool r) ∧ (r = true ↔ p)) ∧ Below w.heap.size w w'
theorem Tells.yes {p : Prop} {w w' : World} (h : p) (b : Below w.heap.size w w') : Tells p w (.returned (.bool true)) w' := ⟨⟨true, rfl, by simp [h]⟩, b⟩
theorem Tells.no {p : Prop} {w w' : World} (h : ¬ p) (b : Below w.heap.size w w') : Tells p w (.returned (.bool false)) w' := ⟨⟨false, rfl, by simp [h]⟩, b⟩
/-- What the tests ahead of the keys refuse. -/
def Bad3 (k : Int) (b : Bool) (n : Dec) (s : List UInt8) : Prop := (k ≠ 2 ∧ b = true) ∨ (k ≠ 3 ∧ n ≠ zero) ∨ (k ≠ 4 ∧ s ≠ [])
instance (k : Int) (b : Bool) (n : Dec) (s : List UInt8) : Decidable (Bad3 k b n s) := by unfold Bad3; exact inferInstance
def Bad5 (k : Int) (ks : List (List UInt8)) (m : Nat) : Prop := (k < 5 ∧ 0 < m) ∨ (k ≠ 6 ∧ 0 < ks.length)
instance (k : Int) (ks : List (List UInt8)) (m : Nat) : Decidable (Bad5 k ks m) := by unfold Bad5; exact inferInstance
def Bad9 (k : Int) (ks : List (List UInt8)) (m : Nat) : Prop := k = 6 ∧ ks.length ≠ m
def Bad7 (n : Dec) (s : List UInt8) : Prop := ¬ Num.Right n ∨ Utf.bad s ≠ none
instance (n : Dec) (s : List UInt8) : Decidable (Bad7 n s) := by unfold Bad7; exact inferInstance
theorem valid_rows {w : World} {l : List UInt8} (hl : l.length < 1000000000) : Calls Tryz.prog 84 #[.string (txt l)] w fun e w' => e = .returned (.bool (decide (Utf.bad l = none))) ∧ Below w.heap.size w w' := by
  have h := Utf.rvalid_any (w := w) (s := txt l) (by rw [txt_size]; omega)
  rw [txt_list, decide_eq_decide.2 (Utf.badI_neg l)] at h
  exact h
theorem nodup_snoc {ks : List (List UInt8)} {i : Nat} (hi : i < ks.length) (h : (ks.take i).Nodup) (hn : ∀ j, j < i → ks[j]? ≠ some ks[i]) : (ks.take (i + 1)).Nodup := by
  rw [List.take_succ_eq_append_getElem hi, List.nodup_append]
  refine ⟨h, by simp, fun a ha b hb => ?_⟩
  rw [List.mem_singleton.1 hb]
  rintro rfl
  obtain ⟨j, hj, e⟩ := List.mem_iff_getElem.1 ha
  rw [List.length_take] at hj
  refine hn j (by omega) ?_
  rw [List.getElem?_eq_getElem (by omega), ← e, List.getElem_take]
theorem not_nodup {ks : List (List UInt8)} {i j : Nat} (hi : i < ks.length) (hj : j < i) (e : ks[j] = ks[i]) : ¬ ks.Nodup := fun h =>
  List.pairwise_iff_getElem.1 h j i (by omega) hi hj e
instance (k : Int) (ks : List (List UInt8)) (m : Nat) : Decidable (Bad9 k ks m) := by unfold Bad9; exact inferInstance
theorem own_bad {k : Int} {b : Bool} {n : Dec} {s : List UInt8} {ks : List (List UInt8)} {vs : List Val} :
    Own ⟨k, b, n, s, ks, vs⟩ ↔ 1 ≤ k ∧ k ≤ 6 ∧ ¬ Bad3 k b n s ∧ ¬ Bad5 k ks vs.length ∧ Num.Right n ∧ Utf.bad s = none ∧ ¬ Bad9 k ks vs.length ∧ (∀ x ∈ ks, Utf.bad x = none) ∧ ks.Nodup := by
  unfold Own Bad3 Bad5 Bad9 Val.kind Val.is Val.num Val.str Val.keys Val.kids
  dsimp only
  constructor
  · rintro ⟨h1, h2, h3, h4, h5, h6, h7, h8, h9, h10, h11, h12⟩
    refine ⟨h1, h2, ?_, ?_, h8, h9, ?_, h11, h12⟩
    · rintro (⟨a, c⟩ | ⟨a, c⟩ | ⟨a, c⟩)
      · rw [h3 a] at c; cases c
      · exact c (h4 a)
      · exact c (h5 a)
    · rintro (⟨a, c⟩ | ⟨a, c⟩)
      · rw [h6 a] at c; simp at c
      · rw [h7 a] at c; simp at c
    · rintro ⟨a, c⟩
      exact c (h10 a)
  · rintro ⟨h1, h2, h3, h5, h8, h9, h10, h11, h12⟩
    refine ⟨h1, h2, fun a => ?_, fun a => ?_, fun a => ?_, fun a => ?_, fun a => ?_, h8, h9, fun a => ?_, h11, h12⟩
    · cases b with
      | false => rfl
      | true => exact absurd (.inl ⟨a, rfl⟩) h3
    · by_cases e : n = zero
      · exact e
      · exact absurd (.inr (.inl ⟨a, e⟩)) h3
    · by_cases e : s = []
      · exact e
      · exact absurd (.inr (.inr ⟨a, e⟩)) h3
    · by_cases e : vs = []
      · exact e
      · exact absurd (.inl ⟨a, List.length_pos_iff.2 e⟩) h5
    · by_cases e : ks = []
      · exact e
      · exact absurd (.inr ⟨a, List.length_pos_iff.2 e⟩) h5
    · by_cases e : ks.length = vs.length
      · exact e
      · exact absurd ⟨a, e⟩ h10
set_option maxRecDepth 100000 in
set_option maxHeartbeats 8000000 in
theorem rown_any {v : Val} {w : World} {u : Value} (hs1 : v.str.length < 1000000000) (hs2 : v.num.dig.length < 1000000000) (hs3 : ∀ x ∈ v.keys, x.length < 1000000000) (h : HoldV w u v) :
    Calls Tryz.prog 55 #[u] w (Tells (Own v) w) := by
  obtain ⟨k, b, n, s, ks, vs⟩ := v
  obtain ⟨cs, rfl, hc⟩ := h
  rw [Hold] at hc
  obtain ⟨uk, a, c, rfl, hk, hcap, hmax, -⟩ := hc
  obtain ⟨pk, ck, rfl, hck, hmk, hxk⟩ := hk
  unfold Val.str at hs1
  unfold Val.num at hs2
  unfold Val.keys at hs3
  dsimp only at hs1 hs2 hs3
  show Calls Tryz.prog 55 #[.agg #[.int .i64 k, .bool b, .bool n.neg, .string (txt n.dig), .int .i64 n.exp, .string (txt s), .slice pk ks.length ck, .slice a vs.length c]] w _
  have hA := World.alloc_heap_new w (.cells #[.int .i64 k, .bool b, .bool n.neg, .string (txt n.dig), .int .i64 n.exp, .string (txt s), .slice pk ks.length ck, .slice a vs.length c] 29)
  have bA : Below w.heap.size w (w.alloc (.cells #[.int .i64 k, .bool b, .bool n.neg, .string (txt n.dig), .int .i64 n.exp, .string (txt s), .slice pk ks.length ck, .slice a vs.length c] 29)) := (Below.refl _ w).alloc (Nat.le_refl _) _
  have hob := own_bad (k := k) (b := b) (n := n) (s := s) (ks := ks) (vs := vs)
  by_cases k1 : k < 1
  · have HN := Lib.hid (show ¬ Own ⟨k, b, n, s, ks, vs⟩ from fun h => by have := (hob.1 h).1; omega)
    obtain ⟨c0, c1, c2, c3, c4, c5, c6, c7⟩ := eight hA
    clear hob
    go_enter Tryz.func55, Tryz.ntmps55
    go_wp2_with fail
    go_ret
    exact .no HN.out bA
  have k1' : decide (k < 1) = false := by simp; omega
  by_cases k6 : 6 < k
  · have HN := Lib.hid (show ¬ Own ⟨k, b, n, s, ks, vs⟩ from fun h => by have := (hob.1 h).2.1; omega)
    obtain ⟨c0, c1, c2, c3, c4, c5, c6, c7⟩ := eight hA
    clear hob
    go_enter Tryz.func55, Tryz.ntmps55
    go_wp2_with fail
    go_ret
    exact .no HN.out bA
  have k6' : decide (6 < k) = false := by simp; omega
  have hO : Own ⟨k, b, n, s, ks, vs⟩ ↔ ¬ Bad3 k b n s ∧ ¬ Bad5 k ks vs.length ∧ Num.Right n ∧ Utf.bad s = none ∧ ¬ Bad9 k ks vs.length ∧ (∀ x ∈ ks, Utf.bad x = none) ∧ ks.Nodup := by
    rw [hob]
    constructor
    · exact fun h => h.2.2
    · exact fun h => ⟨by omega, by omega, h⟩
  have HO := Lib.hid hO
  obtain ⟨c0, c1, c2, c3, c4, c5, c6, c7⟩ := eight hA
  clear hob hO
  go_enter Tryz.func55, Tryz.ntmps55
  go_upto_region 3 with fail
  clear k1 k1' k6 k6'
  go_cut [40] from 13 to 40 (fun q wc => q = .bool (decide (Bad3 k b n s)) ∧ wc.heap[w.heap.size]? = some (.cells #[.int .i64 k, .bool b, .bool n.neg, .string (txt n.dig), .int .i64 n.exp, .string (txt s), .slice pk ks.length ck, .slice a vs.length c] 29 (0, 0)) ∧ Below w.heap.size w wc)
  case first =>
    by_cases a1 : k ≠ 2 ∧ b = true
    · have HB := Lib.hid (decide_eq_true (p := Bad3 k b n s) (.inl a1)).symm
      have e1 : (k != 2) = true := by simpa using a1.1
      obtain ⟨-, rfl⟩ := a1
      go_wp2_with fail
      go_meet
      case rel => exact ⟨congrArg Value.bool HB.out, hA, bA⟩
    by_cases a2 : k ≠ 3 ∧ n ≠ zero
    · have HB := Lib.hid (decide_eq_true (p := Bad3 k b n s) (.inr (.inl a2))).symm
      have e2 : (k != 3) = true := by simpa using a2.1
      obtain ⟨g1, g2, g3⟩ := n
      have hd : (g1 == false) = false ∨ (g1 = false ∧ ((txt g2).toList == (txt []).toList) = false) ∨ (g1 = false ∧ g2 = [] ∧ (g3 == 0) = false) := by
        by_cases f1 : g1 = false
        · by_cases f2 : g2 = []
          · by_cases f3 : g3 = 0
            · exact absurd (by rw [f1, f2, f3]; rfl) a2.2
            · exact .inr (.inr ⟨f1, f2, by simpa using f3⟩)
          · exact .inr (.inl ⟨f1, txt_ne f2⟩)
        · exact .inl (by simpa using f1)
      have hk2 : (k != 2) = false ∨ ((k != 2) = true ∧ b = false) := by
        by_cases h : k = 2
        · exact .inl (by simp [h])
        · refine .inr ⟨by simpa using h, ?_⟩
          cases b with
          | false => rfl
          | true => exact absurd ⟨h, rfl⟩ a1
      have ht0 : (⟨#[]⟩ : ByteArray) = txt [] := rfl
      dsimp only at *
      clear a1 a2
      rcases hk2 with h2 | ⟨h2, rfl⟩
      all_goals
        rcases hd with h1 | ⟨rfl, h1⟩ | ⟨rfl, rfl, h1⟩
        all_goals
          go_wp2_with fail
          go_meet
          case rel => exact ⟨congrArg Value.bool HB.out, hA, bA⟩
    have hk2 : (k != 2) = false ∨ ((k != 2) = true ∧ b = false) := by
      by_cases h : k = 2
      · exact .inl (by simp [h])
      · refine .inr ⟨by simpa using h, ?_⟩
        cases b with
        | false => rfl
        | true => exact absurd ⟨h, rfl⟩ a1
    have hk3 : (k != 3) = false ∨ ((k != 3) = true ∧ n.neg = false ∧ n.dig = [] ∧ n.exp = 0) := by
      by_cases h : k = 3
      · exact .inl (by simp [h])
      · refine .inr ⟨by simpa using h, ?_⟩
        have : n = zero := by
          by_cases e : n = zero
          · exact e
          · exact absurd ⟨h, e⟩ a2
        subst this
        exact ⟨rfl, rfl, rfl⟩
    have ht0 : (⟨#[]⟩ : ByteArray) = txt [] := rfl
    by_cases a3 : k ≠ 4 ∧ s ≠ []
    · have HB := Lib.hid (decide_eq_true (p := Bad3 k b n s) (.inr (.inr a3))).symm
      have e4 : (k != 4) = true := by simpa using a3.1
      have e5 := txt_ne a3.2
      clear a1 a2 a3
      obtain ⟨g1, g2, g3⟩ := n
      dsimp only at *
      rcases hk2 with h2 | ⟨h2, rfl⟩
      all_goals
        rcases hk3 with h3 | ⟨h3, rfl, rfl, rfl⟩
        all_goals
          go_wp2_with fail
          go_meet
          case rel => exact ⟨congrArg Value.bool HB.out, hA, bA⟩
    · have HB := Lib.hid (decide_eq_false (p := Bad3 k b n s) (by
        rintro (h | h | h)
        · exact a1 h
        · exact a2 h
        · exact a3 h)).symm
      have hk4 : (k != 4) = false ∨ ((k != 4) = true ∧ s = []) := by
        by_cases h : k = 4
        · exact .inl (by simp [h])
        · refine .inr ⟨by simpa using h, ?_⟩
          by_cases e : s = []
          · exact e
          · exact absurd ⟨h, e⟩ a3
      have ht1 : (txt []).toList = [] := by unfold txt; rw [ByteArray.toList_mk]
      clear a1 a2 a3
      obtain ⟨g1, g2, g3⟩ := n
      dsimp only at *
      rcases hk2 with h2 | ⟨h2, rfl⟩
      all_goals
        rcases hk3 with h3 | ⟨h3, rfl, rfl, rfl⟩
        all_goals
          rcases hk4 with h4 | ⟨h4, rfl⟩
          all_goals
            go_wp2_with fail
            go_meet
            case rel => exact ⟨congrArg Value.bool HB.out, hA, bA⟩
  case rest =>
    obtain ⟨rfl, hA2, b2⟩ := hcut
    clear c0 c1 c2 c3 c4 c5 c6 c7 hA bA
    obtain ⟨c0, c1, c2, c3, c4, c5, c6, c7⟩ := eight hA2
    by_cases hB3 : Bad3 k b n s
    · have HN := Lib.hid (show ¬ Own ⟨k, b, n, s, ks, vs⟩ from fun h => (HO.out.1 h).1 hB3)
      rw [decide_eq_true hB3]
      clear hB3
      go_wp2_with fail
      go_ret
      exact .no HN.out b2
    rw [decide_eq_false hB3]
    have H3 := Lib.hid hB3
    clear hB3
    go_upto_region 5 with fail
    go_cut [60] from 41 to 60 (fun q wd => q = .bool (decide (Bad5 k ks vs.length)) ∧ wd.heap[w.heap.size]? = some (.cells #[.int .i64 k, .bool b, .bool n.neg, .string (txt n.dig), .int .i64 n.exp, .string (txt s), .slice pk ks.length ck, .slice a vs.length c] 29 (0, 0)) ∧ Below w.heap.size w wd)
    case first =>
      by_cases a1 : k < 5 ∧ 0 < vs.length
      · have HB := Lib.hid (decide_eq_true (p := Bad5 k ks vs.length) (.inl a1)).symm
        obtain ⟨e1, e2⟩ := a1
        have e2' : decide (0 < vs.length) = true := decide_eq_true e2
        clear e2
        go_wp2_with fail
        go_meet
        case rel => exact ⟨congrArg Value.bool HB.out, hA2, b2⟩
      have g1 : decide (k < 5) = false ∨ (k < 5 ∧ decide (0 < vs.length) = false) := by
        by_cases h : k < 5
        · exact .inr ⟨h, decide_eq_false fun h2 => a1 ⟨h, h2⟩⟩
        · exact .inl (decide_eq_false h)
      by_cases a2 : k ≠ 6 ∧ 0 < ks.length
      · have HB := Lib.hid (decide_eq_true (p := Bad5 k ks vs.length) (.inr a2)).symm
        have e1 : (k != 6) = true := by simpa using a2.1
        have e2' : decide (0 < ks.length) = true := decide_eq_true a2.2
        clear a1 a2
        rcases g1 with h | ⟨h, h2⟩
        all_goals
          go_wp2_with fail
          go_meet
          case rel => exact ⟨congrArg Value.bool HB.out, hA2, b2⟩
      · have HB := Lib.hid (decide_eq_false (p := Bad5 k ks vs.length) (fun h => h.elim a1 a2)).symm
        have g2 : (k != 6) = false ∨ ((k != 6) = true ∧ decide (0 < ks.length) = false) := by
          by_cases h : k = 6
          · exact .inl (by simp [h])
          · exact .inr ⟨by simpa using h, decide_eq_false fun h2 => a2 ⟨h, h2⟩⟩
        clear a1 a2
        rcases g1 with h | ⟨h, h2⟩
        all_goals
          rcases g2 with h3 | ⟨h3, h4⟩
          all_goals
            go_wp2_with fail
            go_meet
            case rel => exact ⟨congrArg Value.bool HB.out, hA2, b2⟩
    case rest =>
      obtain ⟨rfl, hA3, b3⟩ := hcut
      clear c0 c1 c2 c3 c4 c5 c6 c7 hA2 b2
      obtain ⟨c0, c1, c2, c3, c4, c5, c6, c7⟩ := eight hA3
      by_cases hB5 : Bad5 k ks vs.length
      · have HN := Lib.hid (show ¬ Own ⟨k, b, n, s, ks, vs⟩ from fun h => (HO.out.1 h).2.1 hB5)
        rw [decide_eq_true hB5]
        clear hB5
        go_wp2_with fail
        go_ret
        exact .no HN.out b3
      rw [decide_eq_false hB5]
      have H5 := Lib.hid hB5
      clear hB5
      have hr : ∀ wx, Calls Tryz.prog 83 #[.agg #[.bool n.neg, .string (txt n.dig), .int .i64 n.exp]] wx fun e w' => e = .returned (.bool (decide (Num.Right n))) ∧ Below wx.heap.size wx w' := fun wx => Num.right_any hs2
      have hv := fun wx => valid_rows (w := wx) hs1
      go_upto_region 7 with fail
      go_cut [70] from 61 to 70 (fun q we => q = .bool (decide (Bad7 n s)) ∧ we.heap[w.heap.size]? = some (.cells #[.int .i64 k, .bool b, .bool n.neg, .string (txt n.dig), .int .i64 n.exp, .string (txt s), .slice pk ks.length ck, .slice a vs.length c] 29 (0, 0)) ∧ Below w.heap.size w we)
      case first =>
        by_cases a1 : Num.Right n
        · simp only [decide_eq_true a1] at hr
          by_cases a2 : Utf.bad s = none
          · have HB := Lib.hid (decide_eq_false (p := Bad7 n s) (fun h => h.elim (fun h => h a1) (fun h => h a2))).symm
            simp only [decide_eq_true a2] at hv
            clear a1 a2
            go_wp2_with fail
            refine (hr _).mono ?_
            rintro e w1 ⟨rfl, k1⟩
            have b4 := b3.trans (k1.mono b3.size)
            have hA4 := (k1.block _ (lt_of_heap hA3)).trans hA3
            clear c0 c1 c2 c3 c4 c5 c6 c7
            obtain ⟨c0, c1, c2, c3, c4, c5, c6, c7⟩ := eight hA4
            go_wp2_with fail
            refine (hv _).mono ?_
            rintro e w2 ⟨rfl, k2⟩
            go_wp2_with fail
            go_meet
            case rel => exact ⟨congrArg Value.bool HB.out, (k2.block _ (lt_of_heap hA4)).trans hA4, b4.trans (k2.mono b4.size)⟩
          · have HB := Lib.hid (decide_eq_true (p := Bad7 n s) (.inr a2)).symm
            simp only [decide_eq_false a2] at hv
            clear a1 a2
            go_wp2_with fail
            refine (hr _).mono ?_
            rintro e w1 ⟨rfl, k1⟩
            have b4 := b3.trans (k1.mono b3.size)
            have hA4 := (k1.block _ (lt_of_heap hA3)).trans hA3
            clear c0 c1 c2 c3 c4 c5 c6 c7
            obtain ⟨c0, c1, c2, c3, c4, c5, c6, c7⟩ := eight hA4
            go_wp2_with fail
            refine (hv _).mono ?_
            rintro e w2 ⟨rfl, k2⟩
            go_wp2_with fail
            go_meet
            case rel => exact ⟨congrArg Value.bool HB.out, (k2.block _ (lt_of_heap hA4)).trans hA4, b4.trans (k2.mono b4.size)⟩
        · have HB := Lib.hid (decide_eq_true (p := Bad7 n s) (.inl a1)).symm
          simp only [decide_eq_false a1] at hr
          clear a1
          go_wp2_with fail
          refine (hr _).mono ?_
          rintro e w1 ⟨rfl, k1⟩
          go_wp2_with fail
          go_meet
          case rel => exact ⟨congrArg Value.bool HB.out, (k1.block _ (lt_of_heap hA3)).trans hA3, b3.trans (k1.mono b3.size)⟩
      case rest =>
        obtain ⟨rfl, hA4, b4⟩ := hcut
        clear c0 c1 c2 c3 c4 c5 c6 c7 hA3 b3 hr hv
        obtain ⟨c0, c1, c2, c3, c4, c5, c6, c7⟩ := eight hA4
        by_cases hB7 : Bad7 n s
        · have HN := Lib.hid (show ¬ Own ⟨k, b, n, s, ks, vs⟩ from fun h => hB7.elim (fun h7 => h7 (HO.out.1 h).2.2.1) (fun h7 => h7 (HO.out.1 h).2.2.2.1))
          rw [decide_eq_true hB7]
          clear hB7
          go_wp2_with fail
          go_ret
          exact .no HN.out b4
        rw [decide_eq_false hB7]
        have H7 := Lib.hid hB7
        clear hB7
        go_upto_region 9 with fail
        go_cut [82] from 71 to 82 (fun q wf => q = .bool (decide (Bad9 k ks vs.length)) ∧ wf.heap[w.heap.size]? = some (.cells #[.int .i64 k, .bool b, .bool n.neg, .string (txt n.dig), .int .i64 n.exp, .string (txt s), .slice pk ks.length ck, .slice a vs.length c] 29 (0, 0)) ∧ Below w.heap.size w wf)
        case first =>
          by_cases h6 : k = 6
          · have e6 : (k == 6) = true := by simpa using h6
            by_cases hlen : ks.length = vs.length
            · have HB := Lib.hid (decide_eq_false (p := Bad9 k ks vs.length) (fun h => h.2 hlen)).symm
              have e1 : (((ks.length : Nat) : Int) == ((vs.length : Nat) : Int)) = true := by simp; omega
              have e1' : (((ks.length : Nat) : Int) != ((vs.length : Nat) : Int)) = false := by simp; omega
              clear h6 hlen
              go_wp2_with fail
              go_meet
              case rel => exact ⟨congrArg Value.bool HB.out, hA4, b4⟩
            · have HB := Lib.hid (decide_eq_true (p := Bad9 k ks vs.length) ⟨h6, hlen⟩).symm
              have e1 : (((ks.length : Nat) : Int) == ((vs.length : Nat) : Int)) = false := by simp; omega
              have e1' : (((ks.length : Nat) : Int) != ((vs.length : Nat) : Int)) = true := by simp; omega
              clear h6 hlen
              go_wp2_with fail
              go_meet
              case rel => exact ⟨congrArg Value.bool HB.out, hA4, b4⟩
          · have HB := Lib.hid (decide_eq_false (p := Bad9 k ks vs.length) (fun h => h6 h.1)).symm
            have e6 : (k == 6) = false := by simpa using h6
            clear h6
            go_wp2_with fail
            go_meet
            case rel => exact ⟨congrArg Value.bool HB.out, hA4, b4⟩
        case rest =>
          obtain ⟨rfl, hA5, b5⟩ := hcut
          clear c0 c1 c2 c3 c4 c5 c6 c7 hA4 b4
          obtain ⟨c0, c1, c2, c3, c4, c5, c6, c7⟩ := eight hA5
          by_cases hB9 : Bad9 k ks vs.length
          · have HN := Lib.hid (show ¬ Own ⟨k, b, n, s, ks, vs⟩ from fun h => (HO.out.1 h).2.2.2.2.1 hB9)
            rw [decide_eq_true hB9]
            clear hB9
            go_wp2_with fail
            go_ret
            exact .no HN.out b5
          rw [decide_eq_false hB9]
          have hO2 : Own ⟨k, b, n, s, ks, vs⟩ ↔ (∀ x ∈ ks, Utf.bad x = none) ∧ ks.Nodup := by
            rw [HO.out]
            have h7 : Num.Right n ∧ Utf.bad s = none := by
              refine ⟨?_, ?_⟩
              · by_cases e : Num.Right n
                · exact e
                · exact absurd (.inl e) H7.out
              · by_cases e : Utf.bad s = none
                · exact e
                · exact absurd (.inr e) H7.out
            exact ⟨fun h => h.2.2.2.2.2, fun h => ⟨H3.out, H5.out, h7.1, h7.2, hB9, h⟩⟩
          have HO2 := Lib.hid hO2
          clear hO2 hB9 HO H3 H5 H7 c0 c1 c2 c3 c4 c5 c6 c7
          go_wp2_with fail
          go_loopw [3] (fun y wr => ∃ i : Nat, i ≤ ks.length ∧ y = .int .i64 (i : Int) ∧ ((∀ x ∈ ks.take i, Utf.bad x = none) ∧ (ks.take i).Nodup) ∧ wr.heap[w.heap.size]? = some (.cells #[.int .i64 k, .bool b, .bool n.neg, .string (txt n.dig), .int .i64 n.exp, .string (txt s), .slice pk ks.length ck, .slice a vs.length c] 29 (0, 0)) ∧ Below w.heap.size w wr) (fun y _ => ks.length - (intOf y).toNat)
          case atStart => exact ⟨0, Nat.zero_le _, rfl, ⟨by simp, by simp⟩, hA5, b5⟩
          case round =>
            clear hA5 b5
            obtain ⟨i, hi, rfl, hgood, hA6, b6⟩ := hrel
            have HG := Lib.hid hgood
            clear hgood
            obtain ⟨-, -, -, -, -, -, c6, -⟩ := eight hA6
            by_cases hlt : i < ks.length
            · have hlt' : (i : Int) < (ks.length : Int) := by omega
              rcases hxk with rfl | ⟨g, off, rfl, hg, hx⟩
              · exact absurd hlt (Nat.not_lt_zero _)
              have wi : IntKind.i64.wrap ((i : Int) + 1) = (i : Int) + 1 := by simp only [IntKind.wrap, IntKind.signed, IntKind.bits]; simp; omega
              have hci := (b6.cell (p := ⟨g, off + i, none⟩) hg).trans (hx i ks[i] (List.getElem?_eq_getElem hlt))
              have hv := valid_rows (w := wr) (hs3 _ (List.getElem_mem hlt))
              have hnext : ∀ (h1 : Utf.bad ks[i] = none) (h2 : ∀ j, j < i → ks[j]? ≠ some ks[i]), (∀ x ∈ ks.take (i + 1), Utf.bad x = none) ∧ (ks.take (i + 1)).Nodup := fun h1 h2 => by
                refine ⟨fun x hx => ?_, nodup_snoc hlt HG.out.2 h2⟩
                rw [List.take_succ_eq_append_getElem hlt] at hx
                rcases List.mem_append.1 hx with hx | hx
                · exact HG.out.1 x hx
                · rw [List.mem_singleton.1 hx]
                  exact h1
              have HX := Lib.hid hnext
              have hgl := Nat.lt_of_lt_of_le hg b6.size
              clear hnext
              by_cases hb : Utf.bad ks[i] = none
              · rw [decide_eq_true hb] at hv
                have HB := Lib.hid hb
                clear hb
                obtain ⟨q, hq⟩ : ∃ q, ks[i] = q := ⟨_, rfl⟩
                rw [hq] at hci hv
                have HQ := Lib.hid hq
                clear hq
                go_wp2_with fail
                refine hv.mono ?_
                rintro e w7 ⟨rfl, k7⟩
                have b7 := b6.trans (k7.mono b6.size)
                have hA7 := (k7.block _ (lt_of_heap hA6)).trans hA6
                have hci7 := (k7.cell (p := ⟨g, off + i, none⟩) hgl).trans hci
                clear hci c6 hA6 b6 k7 hv
                go_wp2_with fail
                go_loopw [4] (fun z wq => ∃ j : Nat, j ≤ i ∧ z = .int .i64 (j : Int) ∧ (∀ m, m < j → ks[m]? ≠ some ks[i]) ∧ wq.heap[w.heap.size]? = some (.cells #[.int .i64 k, .bool b, .bool n.neg, .string (txt n.dig), .int .i64 n.exp, .string (txt s), .slice (some ⟨g, off, none⟩) ks.length ck, .slice a vs.length c] 29 (0, 0)) ∧ Below w.heap.size w wq) (fun z _ => i - (intOf z).toNat)
                case atStart => exact ⟨0, Nat.zero_le _, rfl, fun m hm => absurd hm (Nat.not_lt_zero _), hA7, b7⟩
                case round =>
                  clear hA7 b7 hci7
                  obtain ⟨j, hj, rfl, hno, hA8, b8⟩ := hrel
                  have HNo := Lib.hid hno
                  clear hno
                  obtain ⟨-, -, -, -, -, -, c6, -⟩ := eight hA8
                  have hgl8 := Nat.lt_of_lt_of_le hg b8.size
                  by_cases hji : j < i
                  · have hji' : (j : Int) < (i : Int) := by omega
                    have hjl : j < ks.length := by omega
                    have hjl' : (j : Int) < (ks.length : Int) := by omega
                    have wj : IntKind.i64.wrap ((j : Int) + 1) = (j : Int) + 1 := by simp only [IntKind.wrap, IntKind.signed, IntKind.bits]; simp; omega
                    have hcj := (b8.cell (p := ⟨g, off + j, none⟩) hg).trans (hx j ks[j] (List.getElem?_eq_getElem hjl))
                    have hci := (b8.cell (p := ⟨g, off + i, none⟩) hg).trans (hx i ks[i] (List.getElem?_eq_getElem hlt))
                    obtain ⟨p, hp⟩ : ∃ p, ks[j] = p := ⟨_, rfl⟩
                    rw [hp] at hcj
                    rw [HQ.out] at hci
                    have HP := Lib.hid hp
                    clear hp
                    by_cases e : p = q
                    · have heq : ((txt p).toList == (txt q).toList) = true := by rw [e]; simp
                      have HN := Lib.hid (show ¬ Own ⟨k, b, n, s, ks, vs⟩ from fun h => not_nodup hlt hji (by rw [HP.out, HQ.out, e]) (HO2.out.1 h).2)
                      clear e
                      go_wp2_with fail
                      go_quiet (fail)
                      go_wp2_with fail
                      go_ret
                      exact .no HN.out (below_drewN b8 _)
                    · have heq := txt_ne e
                      have HE := Lib.hid e
                      clear e
                      go_wp2_with fail
                      go_quiet (fail)
                      go_wp2_with fail
                      go_roundw
                      case rel => exact ⟨j + 1, by omega, by go_num, fun m hm => by
                        by_cases hmj : m < j
                        · exact HNo.out m hmj
                        · obtain rfl : m = j := by omega
                          rw [List.getElem?_eq_getElem hjl, HP.out, HQ.out]
                          intro h
                          injection h with h
                          exact HE.out h, hA8, below_drewN b8 _⟩
                      case measure => simp [intOf]; omega
                  · obtain rfl : j = i := by omega
                    have hd : decide (j < j) = false := by simp
                    go_wp2_with fail
                    go_roundw
                    case rel => exact ⟨j + 1, by omega, by go_num, HX.out HB.out HNo.out, hA8, b8⟩
                    case measure => simp [intOf]; omega
              · have HN := Lib.hid (show ¬ Own ⟨k, b, n, s, ks, vs⟩ from fun h => hb ((HO2.out.1 h).1 _ (List.getElem_mem hlt)))
                rw [decide_eq_false hb] at hv
                clear hb HX
                generalize ks[i] = q at *
                go_wp2_with fail
                refine hv.mono ?_
                rintro e w7 ⟨rfl, k7⟩
                go_wp2_with fail
                go_ret
                exact .no HN.out (b6.trans (k7.mono b6.size))
            · obtain rfl : i = ks.length := by omega
              have hd : decide (ks.length < ks.length) = false := by simp
              go_wp2_with fail
              go_ret
              have h := HG.out
              rw [List.take_length] at h
              exact .yes (HO2.out.2 h) b6
end Go.Proofs.YtlfbnfphocpgeaaGreatDoor.Tre
namespace Go.Proofs.YtlfbnfphocpgeaaGreatDoor.Tre
open Go.RowKit Kit Txt
open Num (Dec zero)
/-- The kids lie there. -/
def Kids (w : World) (a : Option Addr) (c : Nat) (vs : List Val) : Prop := vs.length ≤ c ∧ c ≤ 9223372036854775807 ∧ (vs = [] ∨ ∃ g off, a = some ⟨g, off, none⟩ ∧ g < w.heap.size ∧ Holds w g off vs)
theorem Kids.below {w w' : World} {a : Option Addr} {c : Nat} {vs : List Val} (h : Kids w a c vs) (b : Below w.heap.size w w') : Kids w' a c vs :=
  ⟨h.1, h.2.1, h.2.2.imp id fun ⟨g, off, h1, h2, h3⟩ => ⟨g, off, h1, Nat.lt_of_lt_of_le h2 b.size, Holds.below b vs h2 h3⟩⟩
theorem txt_get (ls : List (List UInt8)) (j : Nat) (h : j < ls.length) : (ls.map txt).getD j ByteArray.empty = txt ls[j] := by
  rw [List.getD_eq_getElem?_getD, List.getElem?_map, List.getElem?_eq_getElem h]
  rfl
theorem txts_inj {a b : List (List UInt8)} (h : a.map txt = b.map txt) : a = b := by
  induction a generalizing b with
  | nil => cases b with
    | nil => rfl
    | cons y b => simp at h
  | cons x a ih =>
    cases b with
    | nil => simp at h
    | cons y b =>
      simp only [List.map_cons, List.cons.injEq] at h
      rw [show x = y by rw [← txt_list x, ← txt_list y, h.1], ih h.2]
theorem teq_any {w : World} {u u' : Value} {ks ks' : List (List UInt8)} (h : Ks w u ks) (h' : Ks w u' ks') : Calls Tryz.prog 147 #[u, u'] w fun e w' => (∃ r : Bool, e = .returned (.bool r) ∧ (r = true ↔ ks = ks')) ∧ Below w.heap.size w w' := by
  obtain ⟨a, c, rfl, hc, hm, hx⟩ := h
  obtain ⟨a', c', rfl, hc', hm', hx'⟩ := h'
  rcases hx with rfl | ⟨g, off, rfl, hg, hx⟩
  · refine (Tryz.slices_Equal_string_empty a a' c ks'.length c' w (by omega)).mono ?_
    rintro e w' ⟨rfl, rfl⟩
    refine ⟨⟨_, rfl, ?_⟩, Below.refl _ _⟩
    rw [decide_eq_true_iff, List.length_eq_zero_iff]
    exact eq_comm
  · by_cases e0 : ks = []
    · subst e0
      refine (Tryz.slices_Equal_string_empty _ a' c ks'.length c' w (by omega)).mono ?_
      rintro e w' ⟨rfl, rfl⟩
      refine ⟨⟨_, rfl, ?_⟩, Below.refl _ _⟩
      rw [decide_eq_true_iff, List.length_eq_zero_iff]
      exact eq_comm
    rcases hx' with rfl | ⟨g', off', rfl, hg', hx'⟩
    · refine (Tryz.slices_Equal_string_lens _ a' ks.length c 0 c' w (fun e => e0 (List.length_eq_zero_iff.1 e))).mono ?_
      rintro e w' ⟨rfl, rfl⟩
      exact ⟨⟨_, rfl, by simp [e0]⟩, Below.refl _ _⟩
    · refine (Tryz.slices_Equal_string g off ks.length c g' off' ks'.length c' (ks.map txt) (ks'.map txt) w (by simp) (by simp) (by omega) (by omega) (fun j hj => ?_) (fun j hj => ?_)).mono ?_
      · have hj' : j < ks.length := by simpa using hj
        rw [hx j _ (List.getElem?_eq_getElem hj'), txt_get ks j hj']
      · have hj' : j < ks'.length := by simpa using hj
        rw [hx' j _ (List.getElem?_eq_getElem hj'), txt_get ks' j hj']
      · rintro e w' ⟨rfl, q, rfl⟩
        refine ⟨⟨_, rfl, ?_⟩, below_drewN (Below.refl _ _) q⟩
        rw [decide_eq_true_iff, List.take_of_length_le (by simp), List.take_of_length_le (by simp)]
        exact ⟨txts_inj, fun h => by rw [h]⟩
set_option maxRecDepth 100000 in
set_option maxHeartbeats 8000000 in
theorem teqf_any {vs vs' : List Val} {w : World} {a a' : Option Addr} {c c' : Nat} (ih : ∀ x ∈ vs, ∀ (y : Val) (w : World) (u v : Value), HoldV w u x → HoldV w v y → Calls Tryz.prog 114 #[u, v] w fun e w' => (∃ r : Bool, e = .returned (.bool r) ∧ (r = true ↔ x = y)) ∧ Below w.heap.size w w')
    (h : Kids w a c vs) (h' : Kids w a' c' vs') : Calls Tryz.prog 148 #[.slice a vs.length c, .slice a' vs'.length c', .func (.func 114) #[] #[]] w fun e w' => (∃ r : Bool, e = .returned (.bool r) ∧ (r = true ↔ vs = vs')) ∧ Below w.heap.size w w' := by
  obtain ⟨hcap, hmax, hv⟩ := h
  obtain ⟨hcap', hmax', hv'⟩ := h'
  by_cases e6 : vs.length = vs'.length
  · rw [← e6]
    have HE := Lib.hid e6
    clear e6 hcap'
    go_enter Tryz.func148, Tryz.ntmps148
    go_wp2_with fail
    go_loopw [17] (fun y wr => ∃ j : Nat, j ≤ vs.length ∧ y = .int .i64 j ∧ vs.take j = vs'.take j ∧ Below w.heap.size w wr) (fun y _ => vs.length - (intOf y).toNat)
    case atStart => exact ⟨0, Nat.zero_le _, rfl, rfl, Below.refl _ _⟩
    case round =>
      obtain ⟨j, hj, rfl, hjt, bB⟩ := hrel
      by_cases hlt : j < vs.length
      · have hlt' : (j : Int) < (vs.length : Int) := by omega
        have hltb : j < vs'.length := by rw [← HE.out]; exact hlt
        rcases hv with rfl | ⟨ga, oa, rfl, hga, hxa⟩
        · exact absurd hlt (Nat.not_lt_zero _)
        rcases hv' with rfl | ⟨gb, ob, rfl, hgb, hxb⟩
        · exact absurd hltb (Nat.not_lt_zero _)
        obtain ⟨cx, hx8, hxx⟩ := Holds.at hxa (List.getElem?_eq_getElem hlt)
        obtain ⟨cy, hy8, hyy⟩ := Holds.at hxb (List.getElem?_eq_getElem hltb)
        have hx8 := hx8.below hga bB
        have hy8 := hy8.below hgb bB
        have hcall := fun wx u v => ih vs[j] (List.getElem_mem hlt) vs'[j] wx u v
        have hsnoc : vs[j] = vs'[j] → vs.take (j + 1) = vs'.take (j + 1) := fun e => by rw [List.take_succ_eq_append_getElem hlt, List.take_succ_eq_append_getElem hltb, hjt, e]
        have hoff : vs[j] ≠ vs'[j] → vs ≠ vs' := fun e h => e (by subst h; rfl)
        generalize vs[j] = x at *
        generalize vs'[j] = y at *
        obtain ⟨k1, b1', n1, s1, ks1, vs1⟩ := x
        obtain ⟨k2, b2', n2, s2, ks2, vs2⟩ := y
        have hxx2 := hxx
        have hyy2 := hyy
        rw [Hold] at hxx2 hyy2
        obtain ⟨uk1, a1, c1, rfl, ⟨p1, d1, rfl, -⟩, -, -, -⟩ := hxx2
        obtain ⟨uk2, a2, c2, rfl, ⟨p2, d2, rfl, -⟩, -, -, -⟩ := hyy2
        obtain ⟨x0, x1, x2, x3, x4, x5, x6, x7⟩ := hx8.cells
        obtain ⟨y0, y1, y2, y3, y4, y5, y6, y7⟩ := hy8.cells
        have wk : IntKind.i64.wrap ((j : Int) + 1) = (j : Int) + 1 := by simp only [IntKind.wrap, IntKind.signed, IntKind.bits]; simp; omega
        have hgl := Nat.lt_of_lt_of_le hga bB.size
        have hgl' := Nat.lt_of_lt_of_le hgb bB.size
        have hA2 := new_of (World.alloc_heap_new wr (.cells #[.int .i64 k1, .bool b1', .bool n1.neg, .string (txt n1.dig), .int .i64 n1.exp, .string (txt s1), .slice p1 ks1.length d1, .slice a1 vs1.length c1] 29)) (.cells #[.int .i64 k2, .bool b2', .bool n2.neg, .string (txt n2.dig), .int .i64 n2.exp, .string (txt s2), .slice p2 ks2.length d2, .slice a2 vs2.length c2] 29)
        have hB2 := World.alloc_heap_new (wr.alloc (.cells #[.int .i64 k1, .bool b1', .bool n1.neg, .string (txt n1.dig), .int .i64 n1.exp, .string (txt s1), .slice p1 ks1.length d1, .slice a1 vs1.length c1] 29)) (.cells #[.int .i64 k2, .bool b2', .bool n2.neg, .string (txt n2.dig), .int .i64 n2.exp, .string (txt s2), .slice p2 ks2.length d2, .slice a2 vs2.length c2] 29)
        rw [World.size_alloc] at hB2
        obtain ⟨wB, hwB⟩ : ∃ wB, (wr.alloc (.cells #[.int .i64 k1, .bool b1', .bool n1.neg, .string (txt n1.dig), .int .i64 n1.exp, .string (txt s1), .slice p1 ks1.length d1, .slice a1 vs1.length c1] 29)).alloc (.cells #[.int .i64 k2, .bool b2', .bool n2.neg, .string (txt n2.dig), .int .i64 n2.exp, .string (txt s2), .slice p2 ks2.length d2, .slice a2 vs2.length c2] 29) = wB := ⟨_, rfl⟩
        have bC : Below wr.heap.size wr wB := by
          rw [← hwB]
          exact ((Below.refl _ wr).alloc (Nat.le_refl _) _).alloc (by simp) _
        rw [hwB] at hA2 hB2
        have hcall' := hcall wB (.agg #[.int .i64 k1, .bool b1', .bool n1.neg, .string (txt n1.dig), .int .i64 n1.exp, .string (txt s1), .slice p1 ks1.length d1, .slice a1 vs1.length c1]) (.agg #[.int .i64 k2, .bool b2', .bool n2.neg, .string (txt n2.dig), .int .i64 n2.exp, .string (txt s2), .slice p2 ks2.length d2, .slice a2 vs2.length c2]) ⟨_, rfl, Hold.below (bB.trans (bC.mono bB.size)) _ hxx⟩ ⟨_, rfl, Hold.below (bB.trans (bC.mono bB.size)) _ hyy⟩
        obtain ⟨f0, f1, f2, f3, f4, f5, f6, f7⟩ := eight hA2
        obtain ⟨g0, g1, g2, g3, g4, g5, g6, g7⟩ := eight hB2
        have HW := Lib.hid hwB
        have HS := Lib.hid hsnoc
        have HO := Lib.hid hoff
        clear hwB hx8 hy8 hxx hyy hcall hxa hxb hsnoc hoff hjt ih hA2 hB2
        go_wp2_with fail
        rw [HW.out]
        go_wp2_with fail
        refine hcall'.mono ?_
        rintro e w1 ⟨⟨r, rfl, hr⟩, kx⟩
        have bx := (bB.trans (bC.mono bB.size)).trans (kx.mono (Nat.le_trans bB.size bC.size))
        cases r with
        | true =>
          have HX := Lib.hid (HS.out (hr.1 rfl))
          clear hr
          go_wp2_with fail
          go_roundw
          case rel => exact ⟨j + 1, by omega, by go_num, HX.out, bx⟩
          case measure => simp [intOf]; omega
        | false =>
          have hno := HO.out fun e => by have := hr.2 e; cases this
          go_wp2_with fail
          go_ret
          exact ⟨⟨false, rfl, by simp; exact hno⟩, bx⟩
      · obtain rfl : j = vs.length := by omega
        rw [List.take_length, HE.out, List.take_length] at hjt
        have HT := Lib.hid hjt
        clear hjt
        go_wp2_with fail
        go_ret
        exact ⟨⟨true, rfl, by simp; exact HT.out⟩, bB⟩
  · have HN : ¬ vs = vs' := fun e => e6 (by rw [e])
    have e6' : (((vs.length : Nat) : Int) != ((vs'.length : Nat) : Int)) = true := by simp; omega
    go_enter Tryz.func148, Tryz.ntmps148
    go_wp2_with fail
    go_ret
    exact ⟨⟨false, rfl, by simp [HN]⟩, Below.refl _ _⟩
set_option maxRecDepth 100000 in
set_option maxHeartbeats 8000000 in
theorem tsame_of : ∀ (x : Val) (y : Val) (w : World) (u v : Value), HoldV w u x → HoldV w v y → Calls Tryz.prog 114 #[u, v] w fun e w' => (∃ r : Bool, e = .returned (.bool r) ∧ (r = true ↔ x = y)) ∧ Below w.heap.size w w' := by
  refine ind1 fun x ih y w u v hx hy => ?_
  obtain ⟨k, b, n, s, ks, vs⟩ := x
  obtain ⟨k', b', n', s', ks', vs'⟩ := y
  obtain ⟨cs, rfl, hc⟩ := hx
  obtain ⟨cs', rfl, hc'⟩ := hy
  rw [Hold] at hc hc'
  obtain ⟨uk, a, c, rfl, hk, hv⟩ := hc
  obtain ⟨uk', a', c', rfl, hk', hv'⟩ := hc'
  have hv : Kids w a c vs := hv
  have hv' : Kids w a' c' vs' := hv'
  show Calls Tryz.prog 114 #[.agg #[.int .i64 k, .bool b, .bool n.neg, .string (txt n.dig), .int .i64 n.exp, .string (txt s), uk, .slice a vs.length c], .agg #[.int .i64 k', .bool b', .bool n'.neg, .string (txt n'.dig), .int .i64 n'.exp, .string (txt s'), uk', .slice a' vs'.length c']] w _
  have hA := new_of (World.alloc_heap_new w (.cells #[.int .i64 k, .bool b, .bool n.neg, .string (txt n.dig), .int .i64 n.exp, .string (txt s), uk, .slice a vs.length c] 29)) (.cells #[.int .i64 k', .bool b', .bool n'.neg, .string (txt n'.dig), .int .i64 n'.exp, .string (txt s'), uk', .slice a' vs'.length c'] 29)
  have hB := World.alloc_heap_new (w.alloc (.cells #[.int .i64 k, .bool b, .bool n.neg, .string (txt n.dig), .int .i64 n.exp, .string (txt s), uk, .slice a vs.length c] 29)) (.cells #[.int .i64 k', .bool b', .bool n'.neg, .string (txt n'.dig), .int .i64 n'.exp, .string (txt s'), uk', .slice a' vs'.length c'] 29)
  rw [World.size_alloc] at hB
  have bA : Below w.heap.size w ((w.alloc (.cells #[.int .i64 k, .bool b, .bool n.neg, .string (txt n.dig), .int .i64 n.exp, .string (txt s), uk, .slice a vs.length c] 29)).alloc (.cells #[.int .i64 k', .bool b', .bool n'.neg, .string (txt n'.dig), .int .i64 n'.exp, .string (txt s'), uk', .slice a' vs'.length c'] 29)) := ((Below.refl _ w).alloc (Nat.le_refl _) _).alloc (by simp) _
  obtain ⟨c0, c1, c2, c3, c4, c5, c6, c7⟩ := eight hA
  obtain ⟨d0, d1, d2, d3, d4, d5, d6, d7⟩ := eight hB
  by_cases e1 : k = k'
  · by_cases e2 : b = b'
    · by_cases e3 : n = n'
      · subst e1; subst e2; subst e3
        clear c0 c1 c2 c3 c4 d0 d1 d2 d3 d4 c5 c6 c7 d5 d6 d7
        obtain ⟨c0, c1, c2, c3, c4, c5, c6, c7⟩ := eight hA
        obtain ⟨d0, d1, d2, d3, d4, d5, d6, d7⟩ := eight hB
        by_cases e4 : s = s'
        · subst e4
          have ht := fun wx (h : Below w.heap.size w wx) => teq_any (hk.below h) (hk'.below h)
          have hf := fun wx (h : Below w.heap.size w wx) => teqf_any (vs := vs) (fun x hx => ih x hx) (hv.below h) (hv'.below h)
          clear ih
          go_enter Tryz.func114, Tryz.ntmps114
          go_wp2_with fail
          refine (ht _ bA).mono ?_
          rintro e w1 ⟨⟨r, rfl, hr⟩, k1⟩
          have b1 := bA.trans (k1.mono bA.size)
          have hA1 := (k1.block _ (lt_of_heap hA)).trans hA
          have hB1 := (k1.block _ (lt_of_heap hB)).trans hB
          clear c0 c1 c2 c3 c4 c5 c6 c7 d0 d1 d2 d3 d4 d5 d6 d7 hA hB bA k1 ht
          obtain ⟨c0, c1, c2, c3, c4, c5, c6, c7⟩ := eight hA1
          obtain ⟨d0, d1, d2, d3, d4, d5, d6, d7⟩ := eight hB1
          cases r with
          | true =>
            obtain rfl := hr.1 rfl
            clear hr
            have HF := Lib.hid (hf _ b1)
            clear hf
            go_wp2_with fail
            refine HF.out.mono ?_
            rintro e w2 ⟨⟨r, rfl, hr2⟩, k2⟩
            have b2 := b1.trans (k2.mono b1.size)
            cases r with
            | true =>
              obtain rfl := hr2.1 rfl
              clear hr2
              go_wp2_with fail
              go_ret
              exact ⟨rfl, b2⟩
            | false =>
              have HN : ¬ (Val.mk k b n s ks vs = Val.mk k b n s ks vs') := fun e => by
                injection e with _ _ _ _ _ e
                have := hr2.2 e
                cases this
              clear hr2
              go_wp2_with fail
              go_ret
              exact ⟨⟨false, rfl, by simp [HN]⟩, b2⟩
          | false =>
            have HN : ¬ (Val.mk k b n s ks vs = Val.mk k b n s ks' vs') := fun e => by
              injection e with _ _ _ _ e _
              have := hr.2 e
              cases this
            clear hr hf
            go_wp2_with fail
            go_ret
            exact ⟨⟨false, rfl, by simp [HN]⟩, b1⟩
        · have HN : ¬ (Val.mk k b n s ks vs = Val.mk k b n s' ks' vs') := fun e => e4 (by injection e)
          have e4' := txt_ne e4
          go_enter Tryz.func114, Tryz.ntmps114
          go_wp2_with fail
          go_ret
          exact ⟨⟨false, rfl, by simp [HN]⟩, bA⟩
      · have HN : ¬ (Val.mk k b n s ks vs = Val.mk k' b' n' s' ks' vs') := fun e => e3 (by injection e)
        subst e1; subst e2
        obtain ⟨g1, g2, g3⟩ := n
        obtain ⟨g1', g2', g3'⟩ := n'
        dsimp only at *
        have hd : (g1 == g1') = false ∨ (g1 = g1' ∧ ((txt g2).toList == (txt g2').toList) = false) ∨ (g1 = g1' ∧ g2 = g2' ∧ (g3 == g3') = false) := by
          by_cases f1 : g1 = g1'
          · by_cases f2 : g2 = g2'
            · by_cases f3 : g3 = g3'
              · exact absurd (by rw [f1, f2, f3]) e3
              · exact .inr (.inr ⟨f1, f2, by simpa using f3⟩)
            · exact .inr (.inl ⟨f1, txt_ne f2⟩)
          · exact .inl (by simpa using f1)
        clear e3
        rcases hd with h1 | ⟨rfl, h1⟩ | ⟨rfl, rfl, h1⟩
        all_goals
          go_enter Tryz.func114, Tryz.ntmps114
          go_wp2_with fail
          go_ret
          exact ⟨⟨false, rfl, by simp [HN]⟩, bA⟩
    · have HN : ¬ (Val.mk k b n s ks vs = Val.mk k' b' n' s' ks' vs') := fun e => e2 (by injection e)
      subst e1
      have e2' : (b == b') = false := by simpa using e2
      go_enter Tryz.func114, Tryz.ntmps114
      go_wp2_with fail
      go_ret
      exact ⟨⟨false, rfl, by simp [HN]⟩, bA⟩
  · have HN : ¬ (Val.mk k b n s ks vs = Val.mk k' b' n' s' ks' vs') := fun e => e1 (by injection e)
    have e1' : (k == k') = false := by simpa using e1
    go_enter Tryz.func114, Tryz.ntmps114
    go_wp2_with fail
    go_ret
    exact ⟨⟨false, rfl, by simp [HN]⟩, bA⟩
end Go.Proofs.YtlfbnfphocpgeaaGreatDoor.Tre
namespace Go.Proofs.YtlfbnfphocpgeaaGreatDoor.Tre
open Go.RowKit Kit Txt
open Num (Dec zero)
end Go.Proofs.YtlfbnfphocpgeaaGreatDoor.Tre
namespace Go.Proofs.YtlfbnfphocpgeaaGreatDoor.Tre
open Go.RowKit Kit Txt
open Num (Dec zero)
/-- A value that is no more than statements take, from some depth on. -/
def Mild (v : Val) : Prop := ∃ d, Fine d v
theorem Mild.kids (v : Val) (h : Mild v) : ∀ x ∈ v.kids, Mild x := by
  obtain ⟨d, h⟩ := h
  obtain ⟨k, b, n, s, ks, vs⟩ := v
  rw [Fine] at h
  exact fun x hx => ⟨d + 1, fines_iff.1 h.2.2.2.2 x hx⟩
theorem Mild.sizes {v : Val} (h : Mild v) : v.str.length ≤ 2000 ∧ v.num.dig.length ≤ 1200 ∧ ∀ x ∈ v.keys, x.length ≤ 2000 := by
  obtain ⟨d, h⟩ := h
  obtain ⟨k, b, n, s, ks, vs⟩ := v
  rw [Fine] at h
  exact ⟨h.2.1, h.2.2.1, h.2.2.2.1⟩
theorem fine_deep : ∀ (v : Val) (d : Nat), Fine d v → d + deep v ≤ 71 := by
  refine ind1 fun v ih d h => ?_
  obtain ⟨k, b, n, s, ks, vs⟩ := v
  rw [Fine] at h
  rw [deep]
  have hd : deeps vs ≤ 70 - d := deeps_le.2 fun x hx => by
    have := ih x hx (d + 1) (fines_iff.1 h.2.2.2.2 x hx)
    omega
  split
  · omega
  · omega
theorem rright_any {v : Val} {w : World} {u : Value} (hm : Mild v) (h : HoldV w u v) : Calls Tryz.prog 19 #[u] w (Tells (Right v) w) :=
  rright_of (F := Mild) Mild.kids (fun v w u hm h => rown_any (by have := hm.sizes; omega) (by have := hm.sizes; omega) (fun x hx => by have := hm.sizes.2.2 x hx; omega) h) hm (by obtain ⟨d, hd⟩ := hm; have := fine_deep v d hd; omega) h
end Go.Proofs.YtlfbnfphocpgeaaGreatDoor.Tre
namespace Go.Proofs.YtlfbnfphocpgeaaGreatDoor.Quo
open Utf
end Go.Proofs.YtlfbnfphocpgeaaGreatDoor.Quo
namespace Go.Proofs.YtlfbnfphocpgeaaGreatDoor.Tre
open Go.RowKit Kit Txt Go.Maps
theorem keyedS : Keyed Tryz.prog 9 := string_keyed Tryz.underlying9
theorem key_txt {l : List UInt8} (hl : l.length < 1000000000) : keyOf Tryz.prog 9 (.string (txt l)) = some (.string l) := by
  have h := WideMaps.keyOf_string_mk (P := Tryz.prog) (k := 9) Tryz.underlying9 (s := txt l) (by rw [txt_size]; unfold maxLen; omega)
  rwa [txt_list] at h
set_option maxRecDepth 100000 in
theorem plain_bool_inv {v : Value} {b : Bool} {ps : List MemPlace} (h : plainElem (H := Unit) Tryz.prog 4 v = some (.lit (.bool b), ps)) : v = .bool b := by
  unfold plainElem at h
  rw [Tryz.underlying4] at h
  cases v <;> simp_all
/-- The set of the first j keys. -/
def Seen (w : World) (b j : Nat) (ks : List (List UInt8)) : Prop :=
  ∃ D : DataW Unit, w.ownsMap Tryz.prog 9 (plainElem Tryz.prog 4) b j D ∧ ∀ l : List UInt8, l.length < 1000000000 → D.atKey (.string l) (.lit (.bool false)) = .lit (.bool (decide (l ∈ ks.take j)))
theorem Seen.made (w : World) (ks : List (List UInt8)) : Seen (w.alloc (.map #[] 0)) w.heap.size 0 ks := by
  refine ⟨.map [], World.ownsMap_made _ _ _ _, fun l _ => ?_⟩
  simp [DataW.atKey]
theorem Seen.look {w : World} {b j : Nat} {ks : List (List UInt8)} (h : Seen w b j ks) {l : List UInt8} (hl : l.length < 1000000000) (hz : (zeroValue 4).run Tryz.prog w = .ok (.bool false) w) : (Instr.lookup 95 (.map (some b)) (.string (txt l)) false).run Tryz.prog w = .ok (.bool (decide (l ∈ ks.take j))) w := by
  obtain ⟨D, hown, hD⟩ := h
  obtain ⟨v, ps, hrun, hv⟩ := hown.lookup keyedS Tryz.underlying95 hz (plainElem_bool Tryz.underlying4 false) (key_txt hl)
  rw [hD l hl] at hv
  rw [hrun, plain_bool_inv hv]
theorem Seen.put {w : World} {b j : Nat} {ks : List (List UInt8)} (h : Seen w b j ks) (hj : j < ks.length) (hn : ks.length ≤ 9223372036854775807) (hl : ks[j].length < 1000000000) : ∃ w', (Instr.mapUpdate 95 (.map (some b)) (.string (txt ks[j])) (.bool true)).run Tryz.prog w = .ok () w' ∧ Seen w' b (j + 1) ks ∧ w.grownBy w' (some b) := by
  obtain ⟨D, hown, hD⟩ := h
  obtain ⟨w', hrun, hown', hg⟩ := hown.update keyedS Tryz.underlying95 (by unfold maxLen; omega) (key_txt hl) (plainElem_bool Tryz.underlying4 true)
  refine ⟨w', hrun, ⟨_, hown', fun l hll => ?_⟩, hg⟩
  rw [List.take_succ_eq_append_getElem hj]
  by_cases e : l = ks[j]
  · subst e
    rw [atKey_put_same hown.isMap (keyedS.key (key_txt hl)), decide_eq_true (List.mem_append.2 (.inr (List.mem_singleton.2 rfl)))]
  · rw [atKey_put_other (fun h => e (by injection h)), hD l hll, decide_eq_decide.2 ⟨fun h => List.mem_append.2 (.inl h), fun h => (List.mem_append.1 h).resolve_right fun h => e (List.mem_singleton.1 h)⟩]
theorem Seen.grown {w w' : World} {b j : Nat} {ks : List (List UInt8)} (h : Seen w b j ks) (hg : Below w.heap.size w w') : Seen w' b j ks := by
  obtain ⟨D, ⟨es, clock, hb, rest⟩, hD⟩ := h
  exact ⟨D, ⟨es, clock, (hg.block _ (lt_of_heap hb)).trans hb, rest⟩, hD⟩
end Go.Proofs.YtlfbnfphocpgeaaGreatDoor.Tre
