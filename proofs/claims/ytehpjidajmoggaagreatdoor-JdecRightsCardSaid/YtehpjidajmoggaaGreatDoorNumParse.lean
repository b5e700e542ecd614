/- The contract of the document's own answer for layer 6 (package tabulariumref06): at; a boxed number. Slices and sums of texts. The contract of the document's own answer for layer 6 (package tabulariumref06): Parse. Nothing is claimed here. -/
import Derived.Test.YtehpjidajmoggaaGreatDoorNumRight
import Derived.Test.YtehpjidajmoggaaGreatDoorNumVal
import Derived.Deep.QuietTactic
import Derived.Deep.CutRange
namespace Go.Proofs.YtehpjidajmoggaaGreatDoor.Num
open Go.RowKit Kit

/-- 's[i]', the place an int. -/
theorem idz {l : List UInt8} {z : Int} (h0 : 0 ≤ z) (h1 : z < l.length) (wx : World) : (Instr.index 9 (.string (txt l)) (.int .i64 z)).run Tryz.prog wx = .ok (.int .u8 (nb l z.toNat : Int)) wx := by
  have := idx (l := l) (i := z.toNat) (by omega) wx
  rwa [Int.toNat_of_nonneg h0] at this

/-- The two boxed numbers. -/
theorem two_step {w wx wy : World} {g h : Nat} {a0 a1 a2 b0 b1 b2 : Value} (hS : wx.cell? ⟨g, 0, none⟩ = some a0 ∧ wx.cell? ⟨g, 1, none⟩ = some a1 ∧ wx.cell? ⟨g, 2, none⟩ = some a2 ∧ wx.cell? ⟨h, 0, none⟩ = some b0 ∧ wx.cell? ⟨h, 1, none⟩ = some b1 ∧ wx.cell? ⟨h, 2, none⟩ = some b2 ∧ Below w.heap.size w wx)
    (kx : Below wx.heap.size wx wy) : wy.cell? ⟨g, 0, none⟩ = some a0 ∧ wy.cell? ⟨g, 1, none⟩ = some a1 ∧ wy.cell? ⟨g, 2, none⟩ = some a2 ∧ wy.cell? ⟨h, 0, none⟩ = some b0 ∧ wy.cell? ⟨h, 1, none⟩ = some b1 ∧ wy.cell? ⟨h, 2, none⟩ = some b2 ∧ Below w.heap.size w wy := by
  obtain ⟨h1, h2, h3, h4, h5, h6, h7⟩ := hS
  have hg : g < wx.heap.size := World.block_lt_of_cell? _ _ h1
  have hh : h < wx.heap.size := World.block_lt_of_cell? _ _ h4
  exact ⟨(kx.cell (p := ⟨g, 0, none⟩) hg).trans h1, (kx.cell (p := ⟨g, 1, none⟩) hg).trans h2, (kx.cell (p := ⟨g, 2, none⟩) hg).trans h3,
    (kx.cell (p := ⟨h, 0, none⟩) hh).trans h4, (kx.cell (p := ⟨h, 1, none⟩) hh).trans h5, (kx.cell (p := ⟨h, 2, none⟩) hh).trans h6, h7.trans (kx.mono h7.size)⟩

theorem box_step {w wx wy : World} {g : Nat} {a0 a1 a2 : Value} (hS : wx.cell? ⟨g, 0, none⟩ = some a0 ∧ wx.cell? ⟨g, 1, none⟩ = some a1 ∧ wx.cell? ⟨g, 2, none⟩ = some a2 ∧ Below w.heap.size w wx)
    (kx : Below wx.heap.size wx wy) : wy.cell? ⟨g, 0, none⟩ = some a0 ∧ wy.cell? ⟨g, 1, none⟩ = some a1 ∧ wy.cell? ⟨g, 2, none⟩ = some a2 ∧ Below w.heap.size w wy := by
  obtain ⟨h1, h2, h3, h7⟩ := hS
  have hg : g < wx.heap.size := World.block_lt_of_cell? _ _ h1
  exact ⟨(kx.cell (p := ⟨g, 0, none⟩) hg).trans h1, (kx.cell (p := ⟨g, 1, none⟩) hg).trans h2, (kx.cell (p := ⟨g, 2, none⟩) hg).trans h3, h7.trans (kx.mono h7.size)⟩
theorem box_new (w : World) (a0 a1 a2 : Value) : (w.alloc (.cells #[a0, a1, a2] 24)).cell? ⟨w.heap.size, 0, none⟩ = some a0 ∧ (w.alloc (.cells #[a0, a1, a2] 24)).cell? ⟨w.heap.size, 1, none⟩ = some a1 ∧
    (w.alloc (.cells #[a0, a1, a2] 24)).cell? ⟨w.heap.size, 2, none⟩ = some a2 ∧ Below w.heap.size w (w.alloc (.cells #[a0, a1, a2] 24)) := by
  have h := World.alloc_heap_new w (.cells #[a0, a1, a2] 24)
  exact ⟨cell_of h 0, cell_of h 1, cell_of h 2, (Below.refl _ w).alloc (Nat.le_refl _) _⟩

/-- What Whole answers. -/
def wholeV (r : Nat × Bool) : Value := .tuple #[.int .u64 r.1, .bool r.2]

end Go.Proofs.YtehpjidajmoggaaGreatDoor.Num
namespace Go.Proofs.YtehpjidajmoggaaGreatDoor.Num
open Go.RowKit Kit

theorem txt_extract (l : List UInt8) (i j : Nat) : (txt l).extract i j = txt ((l.drop i).take (j - i)) := by
  apply ByteArray.ext
  apply Array.ext'
  rw [ByteArray.data_extract, Array.toList_extract, List.extract_eq_take_drop]
  rfl
/-- 's[:k]', 's[k:]', 's[i:j]'. -/
theorem slH {l : List UInt8} {z : Int} {k : Nat} (hz : z = (k : Int)) (hk : k ≤ l.length) (wx : World) : (Instr.slice 9 (.string (txt l)) none (some (.int .i64 z)) none).run Tryz.prog wx = .ok (.string (txt (l.take k))) wx := by
  subst hz
  have hs := txt_size l
  rw [run_slice_string_h (P := Tryz.prog) wx 9 (txt l) Tryz.underlying9 .i64 k (by omega) (by omega), txt_extract]
  simp
theorem slL {l : List UInt8} {z : Int} {k : Nat} (hz : z = (k : Int)) (hk : k ≤ l.length) (wx : World) : (Instr.slice 9 (.string (txt l)) (some (.int .i64 z)) none none).run Tryz.prog wx = .ok (.string (txt (l.drop k))) wx := by
  subst hz
  have hs := txt_size l
  rw [run_slice_string_l (P := Tryz.prog) wx 9 (txt l) Tryz.underlying9 .i64 k (by omega) (by omega), txt_extract]
  rw [hs, Int.toNat_natCast, List.take_of_length_le (by rw [List.length_drop]; omega)]
theorem slM {l : List UInt8} {y z : Int} {i j : Nat} (hy : y = (i : Int)) (hz : z = (j : Int)) (hi : i ≤ j) (hj : j ≤ l.length) (wx : World) : (Instr.slice 9 (.string (txt l)) (some (.int .i64 y)) (some (.int .i64 z)) none).run Tryz.prog wx = .ok (.string (txt ((l.drop i).take (j - i)))) wx := by
  subst hy; subst hz
  have hs := txt_size l
  rw [run_slice_string (P := Tryz.prog) wx 9 (txt l) .i64 .i64 i j Tryz.underlying9 (by omega) (by omega) (by omega), txt_extract]
  simp

/-- '+' of two texts, what it holds and that it fits, with the second one's bytes under a name of their own. -/
theorem add_lit {a b c : List UInt8} {s : ByteArray} (hs : s = txt b) (hc : a ++ b = c) (ha : a.length < 1000000000000) (hb : b.length < 1000000000000) : ¬ (9223372036854775807 < (txt a).size + s.size) ∧ txt a ++ s = txt c := by
  subst hs; subst hc
  exact ⟨add_fit ha hb, add_txt a b⟩

theorem negT_len (b : Bool) : (negT b).length ≤ 1 := by cases b <;> simp [negT]

end Go.Proofs.YtehpjidajmoggaaGreatDoor.Num
namespace Go.Proofs.YtehpjidajmoggaaGreatDoor.Num
open Go.RowKit Kit

/-- The result's block, and the number's. -/
def Pair (w wr : World) (ng : Bool) (d : List UInt8) (e : Int) : Prop :=
  wr.heap[w.heap.size]? = some (.cells #[.bool false, .string (txt []), .int .i64 0] 24 (0, 0)) ∧
  wr.heap[w.heap.size + 1]? = some (.cells #[.bool ng, .string (txt d), .int .i64 e] 24 (0, 0)) ∧ Below w.heap.size w wr
theorem Pair.new (w : World) (ng : Bool) : Pair w ((w.alloc (.cells #[.bool false, .string (txt []), .int .i64 0] 24)).alloc (.cells #[.bool ng, .string (txt []), .int .i64 0] 24)) ng [] 0 := by
  refine ⟨new_of (World.alloc_heap_new w _) _, ?_, ((Below.refl _ w).alloc (Nat.le_refl _) _).alloc (by simp) _⟩
  have := World.alloc_heap_new (w.alloc (.cells #[.bool false, .string (txt []), .int .i64 0] 24)) (.cells #[.bool ng, .string (txt []), .int .i64 0] 24)
  rwa [World.size_alloc] at this
theorem set_other {w : World} {b g : Nat} {o : Obj} (h : w.heap[b]? = some o) (hne : b ≠ g) (i : Nat) (v : Value) : (w.setCell ⟨g, i, none⟩ v).heap[b]? = some o := by
  rw [Below.heap_setCell w ⟨g, i, none⟩ v b hne]
  exact h
theorem Pair.neg {w wr : World} {ng : Bool} {d : List UInt8} {e : Int} (h : Pair w wr ng d e) (x : Bool) : Pair w (wr.setCell ⟨w.heap.size + 1, 0, none⟩ (.bool x)) x d e :=
  ⟨set_other h.1 (by omega) _ _, set_of h.2.1 0 _, h.2.2.setCell (p := ⟨w.heap.size + 1, 0, none⟩) (by show w.heap.size ≤ w.heap.size + 1; omega) _⟩
theorem Pair.dig {w wr : World} {ng : Bool} {d : List UInt8} {e : Int} (h : Pair w wr ng d e) (x : List UInt8) : Pair w (wr.setCell ⟨w.heap.size + 1, 1, none⟩ (.string (txt x))) ng x e :=
  ⟨set_other h.1 (by omega) _ _, set_of h.2.1 1 _, h.2.2.setCell (p := ⟨w.heap.size + 1, 1, none⟩) (by show w.heap.size ≤ w.heap.size + 1; omega) _⟩
theorem Pair.exp {w wr : World} {ng : Bool} {d : List UInt8} {e : Int} (h : Pair w wr ng d e) (x : Int) : Pair w (wr.setCell ⟨w.heap.size + 1, 2, none⟩ (.int .i64 x)) ng d x :=
  ⟨set_other h.1 (by omega) _ _, set_of h.2.1 2 _, h.2.2.setCell (p := ⟨w.heap.size + 1, 2, none⟩) (by show w.heap.size ≤ w.heap.size + 1; omega) _⟩
theorem Pair.step {w wr wx : World} {ng : Bool} {d : List UInt8} {e : Int} (h : Pair w wr ng d e) (k : Below wr.heap.size wr wx) : Pair w wx ng d e :=
  ⟨(k.block _ (lt_of_heap h.1)).trans h.1, (k.block _ (lt_of_heap h.2.1)).trans h.2.1, h.2.2.trans (k.mono h.2.2.size)⟩
theorem Pair.drew {w wr : World} {ng : Bool} {d : List UInt8} {e : Int} (h : Pair w wr ng d e) : Pair w wr.drew ng d e := ⟨h.1, h.2.1, below_drewN h.2.2 1⟩

/-- What a parser answers. -/
def parseV (r : Dec × Nat) : Value := .tuple #[numV r.1, .int .i64 r.2]

theorem tw_lt {α : Type} (p : α → Bool) : ∀ (L : List α) (k : Nat), k < (L.takeWhile p).length → ∃ h : k < L.length, p L[k] = true ∧ (L.takeWhile p)[k]? = some L[k]
  | [], k, h => by simp at h
  | a :: L, k, h => by
    rw [List.takeWhile_cons] at h ⊢
    by_cases ha : p a = true
    · rw [if_pos ha] at h ⊢
      match k, h with
      | 0, _ => exact ⟨by simp, ha, rfl⟩
      | k + 1, h =>
        obtain ⟨h1, h2, h3⟩ := tw_lt p L k (by simpa using h)
        exact ⟨by simp; omega, h2, by simpa using h3⟩
    · rw [if_neg ha] at h
      simp at h
theorem tw_end {α : Type} (p : α → Bool) : ∀ (L : List α) (h : (L.takeWhile p).length < L.length), p (L[(L.takeWhile p).length]) = false
  | [], h => by simp at h
  | a :: L, h => by
    by_cases ha : p a = true
    · have e : (a :: L).takeWhile p = a :: L.takeWhile p := by rw [List.takeWhile_cons, if_pos ha]
      simp only [e, List.length_cons, List.getElem_cons_succ] at h ⊢
      exact tw_end p L (by omega)
    · have e : (a :: L).takeWhile p = [] := by rw [List.takeWhile_cons, if_neg ha]
      simp only [e, List.length_nil, List.getElem_cons_zero]
      simpa using ha
theorem tw_le {α : Type} (p : α → Bool) (L : List α) : (L.takeWhile p).length ≤ L.length := (List.takeWhile_sublist _).length_le

theorem nb_get {l : List UInt8} {i : Nat} (h : i < l.length) : nb l i = (l[i]).toNat := by
  unfold nb
  rw [List.getD_eq_getElem?_getD, List.getElem?_eq_getElem h]
  rfl
theorem take_snoc {α : Type} {L : List α} {k : Nat} {a : α} (h : L[k]? = some a) : L.take (k + 1) = L.take k ++ [a] := by
  obtain ⟨hl, rfl⟩ := List.getElem?_eq_some_iff.1 h
  exact List.take_succ_eq_append_getElem hl

/-- The state of the mantissa's loop stays small. -/
theorem mant_small (X : List UInt8) : -(X.length : Int) ≤ (X.foldl mantStep (false, 0, [])).2.1 ∧ (X.foldl mantStep (false, 0, [])).2.1 ≤ 0 ∧ (X.foldl mantStep (false, 0, [])).2.2.length ≤ X.length := by
  have gen : ∀ (X : List UInt8) (p : Bool) (e : Int) (d : List UInt8), e - X.length ≤ (X.foldl mantStep (p, e, d)).2.1 ∧ (X.foldl mantStep (p, e, d)).2.1 ≤ e ∧ (X.foldl mantStep (p, e, d)).2.2.length ≤ d.length + X.length := by
    intro X
    induction X with
    | nil => intro p e d; simp
    | cons c X ih =>
      intro p e d
      rw [List.foldl_cons]
      have hb : e - 1 ≤ (mantStep (p, e, d) c).2.1 ∧ (mantStep (p, e, d) c).2.1 ≤ e ∧ (mantStep (p, e, d) c).2.2.length ≤ d.length + 1 := by
        unfold mantStep
        split
        · dsimp only; omega
        · dsimp only
          refine ⟨by split <;> omega, by split <;> omega, ?_⟩
          split
          · rw [List.length_append]; simp
          · omega
      rcases hm : mantStep (p, e, d) c with ⟨p', e', d'⟩
      rw [hm] at hb
      dsimp only at hb
      obtain ⟨h1, h2, h3⟩ := ih p' e' d'
      rw [List.length_cons]
      refine ⟨by omega, by omega, by omega⟩
  have := gen X false 0 []
  simp at this
  omega
theorem exp_small (X : List UInt8) : (X.foldl expStep (0, false)).1 < 10000000000 := by
  have gen : ∀ (X : List UInt8) (a : Nat) (b : Bool), a < 10000000000 → (X.foldl expStep (a, b)).1 < 10000000000 := by
    intro X
    induction X with
    | nil => intro a b h; exact h
    | cons c X ih =>
      intro a b h
      rw [List.foldl_cons]
      refine ih _ _ ?_
      split
      · rename_i hh
        have := dg_num hh.1
        omega
      · exact h
  exact gen X 0 false (by decide)

theorem below_set3 {w W : World} (h : Below w.heap.size w W) (a b c : Value) : Below w.heap.size w (((W.setCell ⟨w.heap.size, 0, none⟩ a).setCell ⟨w.heap.size, 1, none⟩ b).setCell ⟨w.heap.size, 2, none⟩ c) :=
  ((h.setCell (p := ⟨w.heap.size, 0, none⟩) (Nat.le_refl _) a).setCell (p := ⟨w.heap.size, 1, none⟩) (Nat.le_refl _) b).setCell (p := ⟨w.heap.size, 2, none⟩) (Nat.le_refl _) c

/-- How many digits the number's block holds. -/
def dlen (g : Nat) (wx : World) : Nat := match wx.cell? ⟨g, 1, none⟩ with | some (.string s) => s.size | _ => 0
theorem dlen_of {g : Nat} {wx : World} {d : List UInt8} (h : wx.cell? ⟨g, 1, none⟩ = some (.string (txt d))) : dlen g wx = d.length := by
  unfold dlen
  rw [h]
  exact txt_size d

end Go.Proofs.YtehpjidajmoggaaGreatDoor.Num
