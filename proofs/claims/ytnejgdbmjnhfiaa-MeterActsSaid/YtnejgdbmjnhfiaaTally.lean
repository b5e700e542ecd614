/- Contracts of the methods of meter.tally, which take and answer structs by value. Nothing is claimed here. -/
import Derived.Test.YtnejgdbmjnhfiaaMtr
import Derived.Deep.RegionHeld3
namespace Go.Proofs.Ytnejgdbmjnhfiaa.Mtr
open Go.RowKit Kit

theorem refuse_any (u pk rf : Int) (w : World) (h0 : 0 ≤ rf) (h1 : rf < 9223372036854775807) :
    Calls Try.prog 28 #[.agg #[.int .i64 u, .int .i64 pk, .int .i64 rf]] w fun e w' => e = .returned (.agg #[.int .i64 u, .int .i64 pk, .int .i64 (rf + 1)]) ∧ Below w.heap.size w w' := by
  go_enter Try.func28, Try.ntmps28
  go_wp2
  refine bodyPost_ret (v := .agg #[.int .i64 u, .int .i64 pk, .int .i64 (rf + 1)]) (by simp [results, Try.results28, go_sem]) rfl ⟨rfl, ?_⟩
  repeat (first | exact Below.refl _ _ | refine Below.setCell ?_ (by simp) _ | refine Below.alloc ?_ (by simp) _ | refine Below.drew ?_)

theorem give_yes (u pk rf n : Int) (w : World) (h0 : 0 ≤ n) (h1 : n ≤ u) (h2 : u ≤ 9223372036854775807) :
    Calls Try.prog 22 #[.agg #[.int .i64 u, .int .i64 pk, .int .i64 rf], .int .i64 n] w fun e w' => e = .returned (.tuple #[.agg #[.int .i64 (u - n), .int .i64 pk, .int .i64 rf], .bool true]) ∧ Below w.heap.size w w' := by
  go_enter Try.func22, Try.ntmps22
  go_wp2
  refine bodyPost_ret (v := .tuple #[.agg #[.int .i64 (u - n), .int .i64 pk, .int .i64 rf], .bool true]) (by simp [results, Try.results22, go_sem]) rfl ⟨rfl, ?_⟩
  repeat (first | exact Below.refl _ _ | refine Below.setCell ?_ (by simp) _ | refine Below.alloc ?_ (by simp) _ | refine Below.drew ?_)

theorem give_no (u pk rf n : Int) (w : World) (h : n < 0 ∨ u < n) (h0 : 0 ≤ rf) (h1 : rf < 9223372036854775807) :
    Calls Try.prog 22 #[.agg #[.int .i64 u, .int .i64 pk, .int .i64 rf], .int .i64 n] w fun e w' => e = .returned (.tuple #[.agg #[.int .i64 u, .int .i64 pk, .int .i64 (rf + 1)], .bool false]) ∧ Below w.heap.size w w' := by
  by_cases hn : n < 0
  · clear h
    go_enter Try.func22, Try.ntmps22
    go_wp2_with (go_at_call 28; refine (refuse_any _ _ _ _ h0 h1).mono ?_; rintro e w' ⟨rfl, hb⟩; obtain ⟨hc, hf⟩ := bcell hb)
    have hz : w.heap.size + 1 < w'.heap.size := by have := hb.size; simp at this; omega
    refine bodyPost_ret (v := .tuple #[.agg #[.int .i64 u, .int .i64 pk, .int .i64 (rf + 1)], .bool false]) (by simp [results, Try.results22, go_sem, hc]) rfl ⟨rfl, ?_⟩
    repeat (first | refine Below.setCell ?_ (by simp) _ | refine Below.trans ?_ (hb.mono (by simp; omega)) | exact Below.refl _ _ | refine Below.alloc ?_ (by simp) _ | refine Below.drew ?_)
  · have h' : u < n := by omega
    clear h
    have hn' : 0 ≤ n := by omega
    clear hn
    go_enter Try.func22, Try.ntmps22
    go_wp2_with (go_at_call 28; refine (refuse_any _ _ _ _ h0 h1).mono ?_; rintro e w' ⟨rfl, hb⟩; obtain ⟨hc, hf⟩ := bcell hb)
    have hz : w.heap.size + 1 < w'.heap.size := by have := hb.size; simp at this; omega
    refine bodyPost_ret (v := .tuple #[.agg #[.int .i64 u, .int .i64 pk, .int .i64 (rf + 1)], .bool false]) (by simp [results, Try.results22, go_sem, hc]) rfl ⟨rfl, ?_⟩
    repeat (first | refine Below.setCell ?_ (by simp) _ | refine Below.trans ?_ (hb.mono (by simp; omega)) | exact Below.refl _ _ | refine Below.alloc ?_ (by simp) _ | refine Below.drew ?_)

theorem take_no (u pk rf n lim : Int) (w : World) (hu : 0 ≤ u) (hl : u ≤ lim) (h : n < 0 ∨ lim - u < n) (h2 : lim ≤ 9223372036854775807) (h0 : 0 ≤ rf) (h1 : rf < 9223372036854775807) :
    Calls Try.prog 24 #[.agg #[.int .i64 u, .int .i64 pk, .int .i64 rf], .int .i64 n, .int .i64 lim] w fun e w' => e = .returned (.tuple #[.agg #[.int .i64 u, .int .i64 pk, .int .i64 (rf + 1)], .bool false]) ∧ Below w.heap.size w w' := by
  by_cases hn : n < 0
  · clear h
    go_enter Try.func24, Try.ntmps24
    go_wp2_with (go_at_call 28; refine (refuse_any _ _ _ _ h0 h1).mono ?_; rintro e w' ⟨rfl, hb⟩; obtain ⟨hc, hf⟩ := bcell hb)
    have hz : w.heap.size + 1 < w'.heap.size := by have := hb.size; simp at this; omega
    refine bodyPost_ret (v := .tuple #[.agg #[.int .i64 u, .int .i64 pk, .int .i64 (rf + 1)], .bool false]) (by simp [results, Try.results24, go_sem, hc]) rfl ⟨rfl, ?_⟩
    repeat (first | refine Below.setCell ?_ (by simp) _ | refine Below.trans ?_ (hb.mono (by simp; omega)) | exact Below.refl _ _ | refine Below.alloc ?_ (by simp) _ | refine Below.drew ?_)
  · have h' : lim - u < n := by omega
    clear h
    have hn' : 0 ≤ n := by omega
    clear hn
    go_enter Try.func24, Try.ntmps24
    go_wp2_with (go_at_call 28; refine (refuse_any _ _ _ _ h0 h1).mono ?_; rintro e w' ⟨rfl, hb⟩; obtain ⟨hc, hf⟩ := bcell hb)
    have hz : w.heap.size + 1 < w'.heap.size := by have := hb.size; simp at this; omega
    refine bodyPost_ret (v := .tuple #[.agg #[.int .i64 u, .int .i64 pk, .int .i64 (rf + 1)], .bool false]) (by simp [results, Try.results24, go_sem, hc]) rfl ⟨rfl, ?_⟩
    repeat (first | refine Below.setCell ?_ (by simp) _ | refine Below.trans ?_ (hb.mono (by simp; omega)) | exact Below.refl _ _ | refine Below.alloc ?_ (by simp) _ | refine Below.drew ?_)

theorem take_yes (u pk rf n lim : Int) (w : World) (hu : 0 ≤ u) (h0 : 0 ≤ n) (h1 : n ≤ lim - u) (h2 : lim ≤ 9223372036854775807) :
    Calls Try.prog 24 #[.agg #[.int .i64 u, .int .i64 pk, .int .i64 rf], .int .i64 n, .int .i64 lim] w fun e w' => e = .returned (.tuple #[.agg #[.int .i64 (u + n), .int .i64 (max pk (u + n)), .int .i64 rf], .bool true]) ∧ Below w.heap.size w w' := by
  by_cases hp : pk < u + n
  · rw [show max pk (u + n) = u + n by omega]
    go_enter Try.func24, Try.ntmps24
    go_wp2
    refine bodyPost_ret (v := .tuple #[.agg #[.int .i64 (u + n), .int .i64 (u + n), .int .i64 rf], .bool true]) (by simp [results, Try.results24, go_sem]) rfl ⟨rfl, ?_⟩
    repeat (first | exact Below.refl _ _ | refine Below.setCell ?_ (by simp) _ | refine Below.alloc ?_ (by simp) _ | refine Below.drew ?_)
  · rw [show max pk (u + n) = pk by omega]
    have hp' : u + n ≤ pk := by omega
    clear hp
    go_enter Try.func24, Try.ntmps24
    go_wp2
    refine bodyPost_ret (v := .tuple #[.agg #[.int .i64 (u + n), .int .i64 pk, .int .i64 rf], .bool true]) (by simp [results, Try.results24, go_sem]) rfl ⟨rfl, ?_⟩
    repeat (first | exact Below.refl _ _ | refine Below.setCell ?_ (by simp) _ | refine Below.alloc ?_ (by simp) _ | refine Below.drew ?_)

/-- The closure of Give (yes): what is captured is n, at block c. -/
theorem giveF_yes (u pk rf n : Int) (c : Nat) (w : World) (cn : w.cell? ⟨c, 0, none⟩ = some (.int .i64 n)) (h0 : 0 ≤ n) (h1 : n ≤ u) (h2 : u ≤ 9223372036854775807) :
    Calls Try.prog 21 #[.agg #[.int .i64 u, .int .i64 pk, .int .i64 rf], .pointer (some ⟨c, 0, none⟩)] w fun e w' => e = .returned (.tuple #[.agg #[.int .i64 (u - n), .int .i64 pk, .int .i64 rf], .bool true]) ∧ Below w.heap.size w w' := by
  have hcw : c < w.heap.size := World.block_lt_of_cell? w _ cn
  go_enter Try.func21, Try.ntmps21
  go_wp2_with (go_at_call 22; refine (give_yes _ _ _ _ _ h0 h1 h2).mono ?_; rintro e w' ⟨rfl, hb⟩; obtain ⟨hc, hf⟩ := bcell hb)
  have hz : w.heap.size + 1 < w'.heap.size := by have := hb.size; simp at this; omega
  refine bodyPost_ret (v := .tuple #[.agg #[.int .i64 (u - n), .int .i64 pk, .int .i64 rf], .bool true]) (by simp [results, Try.results21, go_sem, hc]) rfl ⟨rfl, ?_⟩
  repeat (first | refine Below.setCell ?_ (by simp) _ | refine Below.trans ?_ (hb.mono (by simp; omega)) | exact Below.refl _ _ | refine Below.alloc ?_ (by simp) _ | refine Below.drew ?_)

/-- The closure of Give (no): what is captured is n, at block c. -/
theorem giveF_no (u pk rf n : Int) (c : Nat) (w : World) (cn : w.cell? ⟨c, 0, none⟩ = some (.int .i64 n)) (h : n < 0 ∨ u < n) (h0 : 0 ≤ rf) (h1 : rf < 9223372036854775807) :
    Calls Try.prog 21 #[.agg #[.int .i64 u, .int .i64 pk, .int .i64 rf], .pointer (some ⟨c, 0, none⟩)] w fun e w' => e = .returned (.tuple #[.agg #[.int .i64 u, .int .i64 pk, .int .i64 (rf + 1)], .bool false]) ∧ Below w.heap.size w w' := by
  have hcw : c < w.heap.size := World.block_lt_of_cell? w _ cn
  go_enter Try.func21, Try.ntmps21
  go_wp2_with (go_at_call 22; refine (give_no _ _ _ _ _ h h0 h1).mono ?_; rintro e w' ⟨rfl, hb⟩; obtain ⟨hc, hf⟩ := bcell hb)
  have hz : w.heap.size + 1 < w'.heap.size := by have := hb.size; simp at this; omega
  refine bodyPost_ret (v := .tuple #[.agg #[.int .i64 u, .int .i64 pk, .int .i64 (rf + 1)], .bool false]) (by simp [results, Try.results21, go_sem, hc]) rfl ⟨rfl, ?_⟩
  repeat (first | refine Below.setCell ?_ (by simp) _ | refine Below.trans ?_ (hb.mono (by simp; omega)) | exact Below.refl _ _ | refine Below.alloc ?_ (by simp) _ | refine Below.drew ?_)

/-- The closure of Take (yes): what is captured is n, at block c, and the meter's address, at block d. -/
theorem takeF_yes (u pk rf n lim : Int) (c d bp : Nat) (w : World) (cn : w.cell? ⟨c, 0, none⟩ = some (.int .i64 n)) (cm : w.cell? ⟨d, 0, none⟩ = some (.pointer (some ⟨bp, 0, none⟩))) (cl : w.cell? ⟨bp, 0, none⟩ = some (.int .i64 lim))
    (hu : 0 ≤ u) (h0 : 0 ≤ n) (h1 : n ≤ lim - u) (h2 : lim ≤ 9223372036854775807) :
    Calls Try.prog 23 #[.agg #[.int .i64 u, .int .i64 pk, .int .i64 rf], .pointer (some ⟨c, 0, none⟩), .pointer (some ⟨d, 0, none⟩)] w fun e w' => e = .returned (.tuple #[.agg #[.int .i64 (u + n), .int .i64 (max pk (u + n)), .int .i64 rf], .bool true]) ∧ Below w.heap.size w w' := by
  have hcw : c < w.heap.size := World.block_lt_of_cell? w _ cn
  have hdw : d < w.heap.size := World.block_lt_of_cell? w _ cm
  have hbw : bp < w.heap.size := World.block_lt_of_cell? w _ cl
  have n1 : ¬ w.heap.size + 1 = c := by omega
  have n2 : ¬ w.heap.size + 1 = d := by omega
  have n3 : ¬ w.heap.size + 1 = bp := by omega
  go_enter Try.func23, Try.ntmps23
  go_wp2_with fail
  go_region_held3 (fun w' => w'.cell? ⟨w.heap.size, 0, none⟩ = some (.int .i64 u) ∧ w'.cell? ⟨w.heap.size, 1, none⟩ = some (.int .i64 pk) ∧ w'.cell? ⟨w.heap.size, 2, none⟩ = some (.int .i64 rf) ∧ w'.cell? ⟨c, 0, none⟩ = some (.int .i64 n) ∧ w'.cell? ⟨d, 0, none⟩ = some (.pointer (some ⟨bp, 0, none⟩)) ∧ w'.cell? ⟨bp, 0, none⟩ = some (.int .i64 lim))
    (first | go_keep | (refine ⟨(hc _ _ (by simp; omega)).trans ?_, (hc _ _ (by simp; omega)).trans ?_, (hc _ _ (by simp; omega)).trans ?_, (hc _ _ (by simp; omega)).trans ?_, (hc _ _ (by simp; omega)).trans ?_, (hc _ _ (by simp; omega)).trans ?_⟩ <;> go_keep))
    (first | (go_at_call 24; refine (take_yes _ _ _ _ _ _ hu h0 h1 h2).mono ?_; rintro e w' ⟨rfl, hb⟩; obtain ⟨hc, hf⟩ := bcell hb))
  go_wp2
  have hz : w.heap.size + 1 < w'.heap.size := by have := hb.size; simp at this; omega
  refine bodyPost_ret (v := .tuple #[.agg #[.int .i64 (u + n), .int .i64 (max pk (u + n)), .int .i64 rf], .bool true]) (by simp [results, Try.results23, go_sem, hc]) rfl ⟨rfl, ?_⟩
  repeat (first | refine Below.setCell ?_ (by simp) _ | refine Below.trans ?_ (hb.mono (by simp; omega)) | exact Below.refl _ _ | refine Below.alloc ?_ (by simp) _ | refine Below.drew ?_)

/-- The closure of Take (no): what is captured is n, at block c, and the meter's address, at block d. -/
theorem takeF_no (u pk rf n lim : Int) (c d bp : Nat) (w : World) (cn : w.cell? ⟨c, 0, none⟩ = some (.int .i64 n)) (cm : w.cell? ⟨d, 0, none⟩ = some (.pointer (some ⟨bp, 0, none⟩))) (cl : w.cell? ⟨bp, 0, none⟩ = some (.int .i64 lim))
    (hu : 0 ≤ u) (hl : u ≤ lim) (h : n < 0 ∨ lim - u < n) (h2 : lim ≤ 9223372036854775807) (h0 : 0 ≤ rf) (h1 : rf < 9223372036854775807) :
    Calls Try.prog 23 #[.agg #[.int .i64 u, .int .i64 pk, .int .i64 rf], .pointer (some ⟨c, 0, none⟩), .pointer (some ⟨d, 0, none⟩)] w fun e w' => e = .returned (.tuple #[.agg #[.int .i64 u, .int .i64 pk, .int .i64 (rf + 1)], .bool false]) ∧ Below w.heap.size w w' := by
  have hcw : c < w.heap.size := World.block_lt_of_cell? w _ cn
  have hdw : d < w.heap.size := World.block_lt_of_cell? w _ cm
  have hbw : bp < w.heap.size := World.block_lt_of_cell? w _ cl
  have n1 : ¬ w.heap.size + 1 = c := by omega
  have n2 : ¬ w.heap.size + 1 = d := by omega
  have n3 : ¬ w.heap.size + 1 = bp := by omega
  go_enter Try.func23, Try.ntmps23
  go_wp2_with fail
  go_region_held3 (fun w' => w'.cell? ⟨w.heap.size, 0, none⟩ = some (.int .i64 u) ∧ w'.cell? ⟨w.heap.size, 1, none⟩ = some (.int .i64 pk) ∧ w'.cell? ⟨w.heap.size, 2, none⟩ = some (.int .i64 rf) ∧ w'.cell? ⟨c, 0, none⟩ = some (.int .i64 n) ∧ w'.cell? ⟨d, 0, none⟩ = some (.pointer (some ⟨bp, 0, none⟩)) ∧ w'.cell? ⟨bp, 0, none⟩ = some (.int .i64 lim))
    (first | go_keep | (refine ⟨(hc _ _ (by simp; omega)).trans ?_, (hc _ _ (by simp; omega)).trans ?_, (hc _ _ (by simp; omega)).trans ?_, (hc _ _ (by simp; omega)).trans ?_, (hc _ _ (by simp; omega)).trans ?_, (hc _ _ (by simp; omega)).trans ?_⟩ <;> go_keep))
    (first | (go_at_call 24; refine (take_no _ _ _ _ _ _ hu hl h h2 h0 h1).mono ?_; rintro e w' ⟨rfl, hb⟩; obtain ⟨hc, hf⟩ := bcell hb))
  go_wp2
  have hz : w.heap.size + 1 < w'.heap.size := by have := hb.size; simp at this; omega
  refine bodyPost_ret (v := .tuple #[.agg #[.int .i64 u, .int .i64 pk, .int .i64 (rf + 1)], .bool false]) (by simp [results, Try.results23, go_sem, hc]) rfl ⟨rfl, ?_⟩
  repeat (first | refine Below.setCell ?_ (by simp) _ | refine Below.trans ?_ (hb.mono (by simp; omega)) | exact Below.refl _ _ | refine Below.alloc ?_ (by simp) _ | refine Below.drew ?_)

end Go.Proofs.Ytnejgdbmjnhfiaa.Mtr
