/- A part of what twice_holds leans on (its texts, put together). Nothing is claimed here. -/
import Derived.Lib.Builder
import Derived.Lib.AppendStr
import Derived.Lib.UnsafeStr
import Derived.Laws.Externs
import Derived.Shelf.RegionOpenPlain
import Derived.Test.YtlfbnfphocpgeaaGreatDoorTw26
namespace Go.Proofs.YtlfbnfphocpgeaaGreatDoor.Tre
open Go.RowKit Kit Txt
theorem counts_mem : ∀ {vs : List Val} {x : Val}, x ∈ vs → count x ≤ counts vs
  | [], _, h => absurd h List.not_mem_nil
  | v :: r, x, h => by
    rw [counts]
    rcases List.mem_cons.1 h with e | h
    · rw [e]
      omega
    · have := counts_mem h
      omega
theorem counts_len : ∀ vs : List Val, vs.length ≤ counts vs
  | [] => Nat.zero_le _
  | v :: r => by
    rw [counts, List.length_cons]
    have := counts_len r
    have : 1 ≤ count v := by
      obtain ⟨k, b, n, s, ks, vs⟩ := v
      rw [count]
      omega
    omega
theorem count_kids {v : Val} : v.kids.length < count v ∧ ∀ x ∈ v.kids, count x < count v := by
  obtain ⟨k, b, n, s, ks, vs⟩ := v
  rw [count]
  unfold Val.kids
  dsimp only
  have := counts_len vs
  refine ⟨by omega, fun x hx => ?_⟩
  have := counts_mem hx
  omega
theorem counts_perm {a b : List Val} (h : a.Perm b) : counts a = counts b := by
  induction h with
  | nil => rfl
  | cons x _ ih => rw [counts, counts, ih]
  | swap x y l => rw [counts, counts, counts, counts]; omega
  | trans _ _ h1 h2 => exact h1.trans h2
mutual
theorem sort_count : ∀ v : Val, Whole v → count (sort v) = count v
  | ⟨k, i, n, s, ks, vs⟩, h => by
    rw [Whole] at h
    have ih := sorts_count vs h.2
    have ho := h.1
    unfold Own Val.kind Val.keys Val.kids at ho
    dsimp only at ho
    rw [sort_eq]
    unfold Val.kind Val.keys Val.kids
    dsimp only
    by_cases h6 : k = 6
    · have hl := ho.2.2.2.2.2.2.2.2.2.1 h6
      rw [if_pos h6, count, count, counts_perm (rows_kids hl), ih, (rows_keys hl).length_eq]
    · rw [if_neg h6, count, count, ih, ho.2.2.2.2.2.2.1 h6]
theorem sorts_count : ∀ vs : List Val, Wholes vs → counts (sorts vs) = counts vs
  | [], _ => rfl
  | v :: r, h => by
    rw [Wholes] at h
    rw [sorts, counts, counts, sort_count v h.1, sorts_count r h.2]
end
theorem fines_perm {d : Nat} {a b : List Val} (h : a.Perm b) : Fines d a ↔ Fines d b := by
  rw [fines_iff, fines_iff]
  exact ⟨fun k v hv => k v (h.mem_iff.2 hv), fun k v hv => k v (h.mem_iff.1 hv)⟩
mutual
theorem sort_fine : ∀ (v : Val) (d : Nat), Whole v → Fine d v → Fine d (sort v)
  | ⟨k, i, n, s, ks, vs⟩, d, h, hf => by
    rw [Whole] at h
    rw [Fine] at hf
    have ih := sorts_fine vs (d + 1) h.2 hf.2.2.2.2
    have ho := h.1
    unfold Own Val.kind Val.keys Val.kids at ho
    dsimp only at ho
    rw [sort_eq]
    unfold Val.kind Val.is Val.num Val.str Val.keys Val.kids
    dsimp only
    by_cases h6 : k = 6
    · have hl := ho.2.2.2.2.2.2.2.2.2.1 h6
      rw [if_pos h6, Fine]
      exact ⟨hf.1, hf.2.1, hf.2.2.1, fun x hx => hf.2.2.2.1 x ((rows_keys hl).mem_iff.1 hx), (fines_perm (rows_kids hl)).2 ih⟩
    · rw [if_neg h6, Fine]
      exact ⟨hf.1, hf.2.1, hf.2.2.1, fun x hx => absurd hx List.not_mem_nil, ih⟩
theorem sorts_fine : ∀ (vs : List Val) (d : Nat), Wholes vs → Fines d vs → Fines d (sorts vs)
  | [], _, _, _ => by rw [sorts, Fines]; trivial
  | v :: r, d, h, hf => by
    rw [Wholes] at h
    rw [Fines] at hf
    rw [sorts, Fines]
    exact ⟨sort_fine v d h.1 hf.1, sorts_fine r d h.2 hf.2⟩
end
end Go.Proofs.YtlfbnfphocpgeaaGreatDoor.Tre
namespace Go.Proofs.YtlfbnfphocpgeaaGreatDoor.Jenc
open Tre (Val Whole Wholes deep deeps sort sorts count counts)

def klen (ks : List (List UInt8)) : Nat := (ks.map fun k => 6 * k.length + 10).sum
mutual
def siz (c : Nat) : Val → Nat
  | ⟨_, _, n, s, ks, vs⟩ => c + 6 * s.length + n.dig.length + klen ks + sizs c vs
def sizs (c : Nat) : List Val → Nat
  | [] => 0
  | v :: r => siz c v + sizs c r
end
theorem sizs_snoc (c : Nat) : ∀ (a : List Val) (v : Val), sizs c (a ++ [v]) = sizs c a + siz c v
  | [], v => by simp [sizs]
  | x :: a, v => by rw [List.cons_append, sizs, sizs, sizs_snoc c a v, Nat.add_assoc]
theorem sizs_perm (c : Nat) {a b : List Val} (h : a.Perm b) : sizs c a = sizs c b := by
  induction h with
  | nil => rfl
  | cons x _ ih => rw [sizs, sizs, ih]
  | swap x y l => rw [sizs, sizs, sizs, sizs]; omega
  | trans _ _ h1 h2 => exact h1.trans h2
theorem klen_perm {a b : List (List UInt8)} (h : a.Perm b) : klen a = klen b := (h.map _).sum_nat
theorem klen_cons (k : List UInt8) (r : List (List UInt8)) : klen (k :: r) = 6 * k.length + 10 + klen r := by
  unfold klen
  rw [List.map_cons, List.sum_cons]
theorem klen_snoc (r : List (List UInt8)) (k : List UInt8) : klen (r ++ [k]) = klen r + (6 * k.length + 10) := by
  unfold klen
  rw [List.map_append, List.sum_append]
  simp
mutual
theorem siz_sort (c : Nat) : ∀ v : Val, Whole v → siz c (sort v) = siz c v
  | ⟨k, i, n, s, ks, vs⟩, h => by
    rw [Whole] at h
    have ih := sizs_sort c vs h.2
    obtain ⟨l1, l2, a2, a3, a4, a5, a6, hr, hbad, hlen, hkb, hnd⟩ := h.1
    have hlen : k = 6 → ks.length = vs.length := hlen
    rw [Tre.sort_eq]
    unfold Val.kind Val.keys Val.kids Val.is Val.num Val.str
    dsimp only
    by_cases h6 : k = 6
    · rw [if_pos h6, siz, siz, sizs_perm c (Tre.rows_kids (hlen h6)), ih, klen_perm (Tre.rows_keys (hlen h6))]
    · rw [if_neg h6, siz, siz, ih, show ks = [] from a6 h6]
theorem sizs_sort (c : Nat) : ∀ vs : List Val, Wholes vs → sizs c (sorts vs) = sizs c vs
  | [], _ => rfl
  | v :: r, h => by
    rw [Wholes] at h
    rw [sorts, sizs, sizs, siz_sort c v h.1, sizs_sort c r h.2]
end
theorem esc_six : ∀ x : _root_.Fin 256, (Quo.esc (UInt8.ofNat x.val)).length ≤ 6 := by decide +kernel
theorem esc_le (b : UInt8) : (Quo.esc b).length ≤ 6 := by
  have h := esc_six ⟨b.toNat, b.toNat_lt⟩
  simpa only [UInt8.ofNat_toNat] using h
theorem quo_len (s : List UInt8) : (Quo.print s).length ≤ 6 * s.length + 2 := by
  have : (s.flatMap Quo.esc).length ≤ 6 * s.length := by
    induction s with
    | nil => simp
    | cons b r ih =>
      rw [List.flatMap_cons, List.length_append, List.length_cons]
      have := esc_le b
      omega
  unfold Quo.print
  simp
  simp at this
  omega
theorem digits_five {x : Nat} (h : x ≤ 10000) : (Num.digits x).length ≤ 5 := Num.digits_len x 5 (by omega) (by decide)
theorem neg_len (b : Bool) : (Num.negT b).length ≤ 1 := by cases b <;> decide
theorem num_len {n : Num.Dec} (h : Num.Right n) : (Num.print n).length ≤ n.dig.length + 25 := by
  unfold Num.print
  have h1 := neg_len n.neg
  rw [if_neg (by simpa using h)]
  by_cases h0 : n.dig = []
  · rw [if_pos h0, h0]
    decide
  rw [if_neg h0]
  obtain ⟨-, -, -, -, -, e1, e2⟩ := Num.right_head h h0
  have d1 := digits_five (x := n.exp.toNat) (by omega)
  have d2 := digits_five (x := (-n.exp).toNat) (by omega)
  split
  · simp; omega
  split
  · simp; omega
  split
  · simp [Num.noughts_len]; omega
  split
  · simp; omega
  · simp [Num.noughts_len]; omega
mutual
theorem narrow_len : ∀ (v : Val) (d : Nat), Whole v → (prt false d v).length + 1 ≤ siz 30 v
  | ⟨k, i, n, s, ks, vs⟩, d, h => by
    rw [Whole] at h
    obtain ⟨⟨l1, l2, a2, a3, a4, a5, a6, hr, hbad, hlen, hkb, hnd⟩, hw⟩ := h
    have hn : (Num.print n).length ≤ n.dig.length + 25 := num_len hr
    have hq := quo_len s
    have hs := narrows_len vs (d + 1) (decide (k = 6)) true ks hw fun e => hlen (of_decide_eq_true e)
    rw [prt, siz]
    split
    · simp; omega
    split
    · cases i <;> (simp; omega)
    split
    · omega
    split
    · omega
    rw [List.length_cons, List.length_append, List.length_append, brk_false]
    simp
    omega
theorem narrows_len : ∀ (vs : List Val) (d : Nat) (obj first : Bool) (ks : List (List UInt8)), Wholes vs → (obj = true → ks.length = vs.length) → (prts false d obj first ks vs).length ≤ klen ks + sizs 30 vs
  | [], _, _, _, _, _, _ => by rw [prts]; exact Nat.zero_le _
  | v :: r, d, obj, first, ks, h, hl => by
    rw [Wholes] at h
    have h1 := narrow_len v d h.1
    have h2 := narrows_len r d obj false ks.tail h.2 fun e => by have := hl e; rw [List.length_cons] at this; rw [List.length_tail]; omega
    have h3 : (if obj then key false (ks.headD []) else []).length + klen ks.tail ≤ klen ks := by
      cases obj with
      | false =>
        cases ks with
        | nil => simp
        | cons k r => rw [List.tail_cons, klen_cons]; simp
      | true =>
        cases ks with
        | nil => exact absurd (hl rfl) (by simp)
        | cons k r =>
          rw [List.tail_cons, klen_cons]
          have := quo_len k
          show (key false k).length + _ ≤ _
          unfold key
          simp
          omega
    rw [prts, sizs, List.length_append, List.length_append, List.length_append, List.length_append, brk_false]
    have h4 : (if first then [] else [(44 : UInt8)]).length ≤ 1 := by cases first <;> decide
    simp only [List.length_nil]
    omega
end
mutual
theorem pcs_len : ∀ v : Val, (pcs v).length + 3 ≤ 5 * count v
  | ⟨k, i, n, s, ks, vs⟩ => by
    have h1 := pcss_len vs (decide (k = 6)) true ks
    rw [pcs, count]
    by_cases h1 : k = 1
    · rw [if_pos h1]; simp only [List.length_singleton]; omega
    rw [if_neg h1]
    by_cases h2 : k = 2
    · rw [if_pos h2]; simp only [List.length_singleton]; omega
    rw [if_neg h2]
    by_cases h3 : k = 3
    · rw [if_pos h3]; simp only [List.length_singleton]; omega
    rw [if_neg h3]
    by_cases h4 : k = 4
    · rw [if_pos h4]; simp only [List.length_singleton]; omega
    rw [if_neg h4, List.length_cons, List.length_append, List.length_singleton]
    omega
theorem pcss_len : ∀ (vs : List Val) (obj first : Bool) (ks : List (List UInt8)), (pcss obj first ks vs).length ≤ 5 * counts vs
  | [], _, _, _ => by rw [pcss]; exact Nat.zero_le _
  | v :: r, obj, first, ks => by
    have h1 := pcs_len v
    have h2 := pcss_len r obj false ks.tail
    have h3 : (if first then [] else [[(44 : UInt8)]]).length ≤ 1 := by cases first <;> decide
    have h4 : (if obj then [Quo.print (ks.headD []), [58]] else []).length ≤ 2 := by cases obj <;> simp
    rw [pcss, counts, List.length_append, List.length_append, List.length_append]
    omega
end
end Go.Proofs.YtlfbnfphocpgeaaGreatDoor.Jenc
namespace Go.Proofs.YtlfbnfphocpgeaaGreatDoor.Emb
open Go.RowKit Kit Txt
theorem sizeB : (Tryz.prog.info? 62).map (·.size) = some 2 := by kernel_rfl
theorem infoByte : (Tryz.prog.info? 5).map (fun i => (i.zero, i.size, i.bytes)) = some (some (.int .u8 0), 1, 1) := by kernel_rfl
theorem cellsByte : Tryz.prog.cellsOf 5 = 1 := by kernel_rfl
def Lies (T : TypeId) (n : Nat) : Prop := liesAt Tryz.prog Tryz.prog.depth T (n / Tryz.prog.cellsOf T) 0 62 1 = true ∧ T ≠ 5
def At (T : TypeId) (B b : Nat) (p : Value) (l : List UInt8) (rest : List Value) (w : World) : Prop :=
  B ≤ b ∧ B ≤ w.heap.size ∧ ∃ v, w.heap[b]? = some (.cells (p :: v :: rest).toArray T (0, 0)) ∧ w.ownsRow B 5 1 v l.length (Lib.byteCells l) ∧ v.ownBlock ≠ some b
def Emb (T : TypeId) (B b : Nat) (l : List UInt8) (rest : List Value) (w : World) : Prop := At T B b (.pointer none) l rest w ∨ At T B b (.pointer (some ⟨b, 0, none⟩)) l rest w
theorem At.lt {T : TypeId} {B b : Nat} {p : Value} {l : List UInt8} {rest : List Value} {w : World} (h : At T B b p l rest w) : b < w.heap.size := by
  obtain ⟨_, _, v, hb, _⟩ := h
  exact lt_of_heap hb
theorem At.cell {T : TypeId} {B b : Nat} {p : Value} {l : List UInt8} {rest : List Value} {w : World} (h : At T B b p l rest w) : w.cell? ⟨b, 0, none⟩ = some p := by
  obtain ⟨_, _, v, hb, _⟩ := h
  rw [cell_of hb]
  rfl
theorem At.used {T : TypeId} {B b : Nat} {p : Value} {l : List UInt8} {rest : List Value} {w : World} (h : At T B b p l rest w) (q : Value) : At T B b q l rest (w.setCell ⟨b, 0, none⟩ q) := by
  obtain ⟨hB, hw, v, hb, hown, hne⟩ := h
  refine ⟨hB, by simpa [World.setCell] using hw, v, ?_, ?_, hne⟩
  · have := set_of hb 0 q
    simpa using this
  · exact hown.kept (row := some b) ⟨rfl, rfl, rfl, by simp [World.setCell], fun k _ hk => Below.heap_setCell _ _ _ _ (fun e => hk (by simp [e]))⟩ (Or.inr hne)
theorem At.kept {T : TypeId} {B b : Nat} {p : Value} {l : List UInt8} {rest : List Value} {w w' : World} (h : At T B b p l rest w) (k : Below w.heap.size w w') : At T B b p l rest w' := by
  have hlt := h.lt
  obtain ⟨hB, hw, v, hb, hown, hne⟩ := h
  refine ⟨hB, Nat.le_trans hw k.size, v, (k.block b hlt).trans hb, hown.kept (row := none) ⟨k.os, k.tape, k.output, k.size, fun i hi _ => k.block i hi⟩ ?_, hne⟩
  cases hv : v.ownBlock with
  | none => exact .inl rfl
  | some g => exact .inr (by simp)
theorem Emb.kept {T : TypeId} {B b : Nat} {l : List UInt8} {rest : List Value} {w w' : World} (h : Emb T B b l rest w) (k : Below w.heap.size w w') : Emb T B b l rest w' := h.imp (fun h => h.kept k) (fun h => h.kept k)
theorem Emb.lt {T : TypeId} {B b : Nat} {l : List UInt8} {rest : List Value} {w : World} (h : Emb T B b l rest w) : B ≤ b ∧ B ≤ w.heap.size ∧ b < w.heap.size := h.elim (fun h => ⟨h.1, h.2.1, h.lt⟩) (fun h => ⟨h.1, h.2.1, h.lt⟩)
theorem At.rest {T : TypeId} {B b i : Nat} {p x : Value} {l : List UInt8} {rest : List Value} {w : World} (h : At T B b p l rest w) : At T B b p l (rest.set i x) (w.setCell ⟨b, i + 2, none⟩ x) := by
  obtain ⟨hB, hw, v, hb, hown, hne⟩ := h
  refine ⟨hB, by simpa [World.setCell] using hw, v, ?_, ?_, hne⟩
  · have := set_of hb (i + 2) x
    simpa using this
  · exact hown.kept (row := some b) ⟨rfl, rfl, rfl, by simp [World.setCell], fun k _ hk => Below.heap_setCell _ _ _ _ (fun e => hk (by simp [e]))⟩ (Or.inr hne)
theorem Emb.rest {T : TypeId} {B b i : Nat} {x : Value} {l : List UInt8} {rest : List Value} {w : World} (h : Emb T B b l rest w) : Emb T B b l (rest.set i x) (w.setCell ⟨b, i + 2, none⟩ x) := h.imp At.rest At.rest
theorem Emb.cell {T : TypeId} {B b i : Nat} {l : List UInt8} {rest : List Value} {w : World} (h : Emb T B b l rest w) : w.cell? ⟨b, i + 2, none⟩ = rest[i]? := by
  rcases h with h | h
  all_goals
    obtain ⟨_, _, v, hb, _⟩ := h
    rw [cell_of hb]
    simp
theorem Emb.free {T : TypeId} {B b : Nat} {l : List UInt8} {rest : List Value} {w : World} (h : Emb T B b l rest w) (i : Nat) : w.frozen? ⟨b, i, none⟩ = false := by
  rcases h with h | h
  all_goals
    obtain ⟨_, _, v, hb, _⟩ := h
    exact free_of hb i
theorem Emb.new {T : TypeId} (w : World) (rest : List Value) : Emb T w.heap.size w.heap.size [] rest (w.alloc (.cells (.pointer none :: .slice none 0 0 :: rest).toArray T)) :=
  .inl ⟨Nat.le_refl _, by simp, _, World.alloc_heap_new w _, World.ownsRow_nil _ _ _ _, by simp [Value.ownBlock]⟩
def Turn (B b : Nat) (w w' : World) : Prop := Below B w w' ∧ ∀ k cs T fr, k ≠ b → T ≠ 5 → w.heap[k]? = some (.cells cs T fr) → w'.heap[k]? = some (.cells cs T fr)
theorem Turn.refl (B b : Nat) (w : World) : Turn B b w w := ⟨Below.refl _ _, fun _ _ _ _ _ _ h => h⟩
theorem Turn.trans {B b : Nat} {w w1 w2 : World} (h : Turn B b w w1) (k : Turn B b w1 w2) : Turn B b w w2 := ⟨h.1.trans k.1, fun i cs T fr h1 h2 h3 => k.2 i cs T fr h1 h2 (h.2 i cs T fr h1 h2 h3)⟩
theorem Turn.of_below {B b : Nat} {w w' : World} (h : Below w.heap.size w w') (hB : B ≤ w.heap.size) : Turn B b w w' := ⟨h.mono hB, fun i _ _ _ _ _ h3 => (h.block i (lt_of_heap h3)).trans h3⟩
theorem Turn.set {B b : Nat} {w w' : World} (h : Turn B b w w') (hB : B ≤ b) (i : Nat) (v : Value) : Turn B b w (w'.setCell ⟨b, i, none⟩ v) :=
  ⟨h.1.setCell (p := ⟨b, i, none⟩) hB v, fun k cs T fr h1 h2 h3 => (Below.heap_setCell _ _ _ _ (fun e => h1 e)).trans (h.2 k cs T fr h1 h2 h3)⟩
theorem Turn.grown {B b n : Nat} {w w' w2 : World} {v : Value} {xs : List Value} (h : Turn B b w w') (hB : B ≤ w'.heap.size) (hown : w'.ownsRow B 5 1 v n xs) (hg : w'.grownBy w2 v.ownBlock) : Turn B b w w2 :=
  ⟨h.1.grown hg hB (fun k hk => (hown.lt k hk).1), fun k cs T fr h1 h2 h3 => by
    have h4 := h.2 k cs T fr h1 h2 h3
    exact (hg.block k (lt_of_heap h4) (fun e => Lib.ownBlock_ne hown h4 h2 e.symm)).trans h4⟩
set_option maxHeartbeats 1000000 in
set_option maxRecDepth 100000 in
theorem check_any {T : TypeId} {B b : Nat} {l : List UInt8} {rest : List Value} {w : World} (hT : Lies T (rest.length + 2)) (h : Emb T B b l rest w) :
    Calls Tryz.prog 139 #[.pointer (some ⟨b, 0, none⟩)] w fun e w' => e = .returned (.tuple #[]) ∧ At T B b (.pointer (some ⟨b, 0, none⟩)) l rest w' ∧ Turn B b w w' := by
  obtain ⟨j, hj, hjs⟩ := Option.map_eq_some_iff.1 sizeB
  rcases h with h | h
  · have h0 := h.cell
    have hsh : w.shape? b = some (T, rest.length + 2) := by
      obtain ⟨_, _, v, hb, _⟩ := h
      simp [World.shape?, hb]
    have hfz : w.frozen? ⟨b, 0, none⟩ = false := by
      obtain ⟨_, _, v, hb, _⟩ := h
      exact free_of hb 0
    have hto : (convert 59 182 (.pointer (some ⟨b, 0, none⟩))).run Tryz.prog w = .ok (.pointer (some ⟨b, 0, none⟩)) w := Lib.run_to_unsafe w ⟨b, 0, none⟩ Tryz.underlying59 Tryz.underlying182 hj (by rw [hjs]; decide) hsh (by show 0 < _; omega)
    have hfrom : (convert 182 59 (.pointer (some ⟨b, 0, none⟩))).run Tryz.prog w = .ok (.pointer (some ⟨b, 0, none⟩)) w := Lib.run_from_unsafe w ⟨b, 0, none⟩ Tryz.underlying182 Tryz.underlying59 hj hsh hT.1
    have hfin := h.used (.pointer (some ⟨b, 0, none⟩))
    have hbl : Turn B b w (w.setCell ⟨b, 0, none⟩ (.pointer (some ⟨b, 0, none⟩))) := (Turn.refl B b w).set h.1 _ _
    have HF := Lib.hid (And.intro hfin hbl)
    clear hfin hbl h
    go_enter Tryz.func139, Tryz.ntmps139
    go_wp2
    rw [run_callFunc_extern Tryz.func165 (by kernel_rfl) (by kernel_rfl) (by kernel_rfl) (e := Extern.AbiNoEscape.same) (by kernel_rfl)]
    rw [Lib.run_noEscape]
    simp only [Result.andThen]
    rw [Oper.upon_value]
    go_wp2
    go_end0
    exact ⟨rfl, HF.out.1, HF.out.2⟩
  · have h0 := h.cell
    have heq := fun wx => Lib.run_neq_ptr_same wx (⟨b, 0, none⟩ : Addr) Tryz.underlying59 hj
    have HF := Lib.hid h
    clear h
    go_enter Tryz.func139, Tryz.ntmps139
    go_wp2
    go_end0
    exact ⟨rfl, HF.out, Turn.refl B b _⟩
theorem At.put {T : TypeId} {B b : Nat} {p v v' : Value} {m : List UInt8} {rest : List Value} {w : World} (hT : T ≠ 5) (hB : B ≤ b) (hw : B ≤ w.heap.size) (hb : w.heap[b]? = some (.cells (p :: v :: rest).toArray T (0, 0))) (hown : w.ownsRow B 5 1 v' m.length (Lib.byteCells m)) : At T B b p m rest (w.setCell ⟨b, 1, none⟩ v') := by
  have hne := Lib.ownBlock_ne hown hb hT
  refine ⟨hB, by simpa [World.setCell] using hw, v', ?_, ?_, hne⟩
  · have := set_of hb 1 v'
    simpa using this
  · exact hown.kept (row := some b) ⟨rfl, rfl, rfl, by simp [World.setCell], fun k _ hk => Below.heap_setCell _ _ _ _ (fun e => hk (by simp [e]))⟩ (Or.inr hne)
theorem cells_app (l m : List UInt8) : Lib.byteCells l ++ Lib.byteCells m = Lib.byteCells (l ++ m) := by simp [Lib.byteCells]
set_option maxHeartbeats 2000000 in
set_option maxRecDepth 100000 in
theorem str_any {T : TypeId} {B b : Nat} {l m : List UInt8} {rest : List Value} {w : World} (hT : Lies T (rest.length + 2)) (h : Emb T B b l rest w) (hlen : l.length + m.length ≤ 140737488355328) :
    Calls Tryz.prog 108 #[.pointer (some ⟨b, 0, none⟩), .string (txt m)] w fun e w' => e = .returned (.tuple #[.int .i64 (m.length : Int), .nilIface]) ∧ At T B b (.pointer (some ⟨b, 0, none⟩)) (l ++ m) rest w' ∧ Turn B b w w' := by
  have hs := txt_size m
  obtain ⟨i0, hi, hz0, hz1, hz2⟩ := info_parts infoByte
  go_enter Tryz.func108, Tryz.ntmps108
  go_wp2_with fail
  refine (check_any hT h).mono ?_
  rintro e w1 ⟨rfl, h1, hb1⟩
  obtain ⟨hB, hw1, v, hbk, hown, hne⟩ := h1
  have c0 : w1.cell? ⟨b, 0, none⟩ = some (.pointer (some ⟨b, 0, none⟩)) := by rw [cell_of hbk]; rfl
  have c1 : w1.cell? ⟨b, 1, none⟩ = some v := by rw [cell_of hbk]; rfl
  go_wp2_with (at_builtin; refine Lib.wpList_append_own_string _ rfl _ _ 60 9 rfl B 5 i0 Tryz.underlying60 Tryz.underlying9 hi hz0 hz1 hz2 _ _ _ rfl hown (txt m) rfl ?c3 ?c4 ?c5 ?_)
  case c3 => unfold maxLen; omega
  case c4 => omega
  case c5 => exact hw1
  intro v' w2 hown' hgrow _
  have hlt := lt_of_heap hbk
  have hb2 : w2.heap[b]? = some (.cells (.pointer (some ⟨b, 0, none⟩) :: v :: rest).toArray T (0, 0)) := by
    rw [hgrow.block b hlt (fun e => hne e.symm)]
    exact hbk
  have d1 : w2.cell? ⟨b, 1, none⟩ = some v := by rw [cell_of hb2]; rfl
  have f1 : w2.frozen? ⟨b, 1, none⟩ = false := free_of hb2 1
  obtain ⟨ao, n', cap, rfl⟩ : ∃ ao n' cap, v' = .slice ao n' cap := by
    rcases hown'.2 with ⟨hv, _⟩ | ⟨g, cap, cur, hv, _⟩
    · exact ⟨_, _, _, hv⟩
    · exact ⟨_, _, _, hv⟩
  have hown2 : w2.ownsRow B 5 1 (.slice ao n' cap) (l ++ m).length (Lib.byteCells (l ++ m)) := by
    rw [← cells_app, List.length_append]
    have e : Lib.strCells (txt m) = Lib.byteCells m := rfl
    rw [e] at hown'
    exact hown'
  have hfin := At.put hT.2 hB (Nat.le_trans hw1 hgrow.size) hb2 hown2
  have hbl : Turn B b w (w2.setCell ⟨b, 1, none⟩ (.slice ao n' cap)) := (hb1.grown hw1 hown hgrow).set hB _ _
  have HF := Lib.hid (And.intro hfin hbl)
  clear hfin hbl hown2 hown' hown hgrow hb2 hbk
  go_wp2
  go_ret2
  exact ⟨rfl, HF.out.1, HF.out.2⟩
set_option maxHeartbeats 2000000 in
set_option maxRecDepth 100000 in
theorem byte_any {T : TypeId} {B b : Nat} {l : List UInt8} {c : UInt8} {x : Int} {rest : List Value} {w : World} (hT : Lies T (rest.length + 2)) (h : Emb T B b l rest w) (hlen : l.length + 1 ≤ 140737488355328) (hx : x = (c.toNat : Int)) :
    Calls Tryz.prog 107 #[.pointer (some ⟨b, 0, none⟩), .int .u8 x] w fun e w' => e = .returned .nilIface ∧ At T B b (.pointer (some ⟨b, 0, none⟩)) (l ++ [c]) rest w' ∧ Turn B b w w' := by
  subst hx
  obtain ⟨i0, hi, hz0, hz1, hz2⟩ := info_parts infoByte
  go_enter Tryz.func107, Tryz.ntmps107
  go_wp2_with fail
  refine (check_any hT h).mono ?_
  rintro e w1 ⟨rfl, h1, hb1⟩
  obtain ⟨hB, hw1, v, hbk, hown, hne⟩ := h1
  have c0 : w1.cell? ⟨b, 0, none⟩ = some (.pointer (some ⟨b, 0, none⟩)) := by rw [cell_of hbk]; rfl
  have c1 : w1.cell? ⟨b, 1, none⟩ = some v := by rw [cell_of hbk]; rfl
  go_wp2_with (at_builtin; refine wpList_append_own _ rfl _ _ 60 rfl B 5 i0 (.int .u8 0) 1 1 Tryz.underlying60 hi hz0 hz1 hz2 rfl (by decide) _ _ _ rfl (hown.alloc _) ⟨w1.heap.size, 0, none⟩ 1 1 [.int .u8 c.toNat] rfl rfl ?c1 ?c2 ?c3 ?c4 ?c5 ?_)
  case c1 =>
    intro j u hj
    match j, hj with
    | 0, hj => simp at hj; subst hj; simp [Addr.add]
  case c2 => intro u hu; simp at hu; subst hu; rfl
  case c3 => unfold maxLen; omega
  case c4 => omega
  case c5 => simp; omega
  intro v' w2 hown' hgrow _
  have hlt := lt_of_heap hbk
  have hb2 : w2.heap[b]? = some (.cells (.pointer (some ⟨b, 0, none⟩) :: v :: rest).toArray T (0, 0)) := by
    rw [hgrow.block b (by simp; omega) (fun e => hne e.symm), Lib.alloc_old w1 _ b hlt]
    exact hbk
  have d1 : w2.cell? ⟨b, 1, none⟩ = some v := by rw [cell_of hb2]; rfl
  have f1 : w2.frozen? ⟨b, 1, none⟩ = false := free_of hb2 1
  obtain ⟨ao, n', cap, rfl⟩ : ∃ ao n' cap, v' = .slice ao n' cap := by
    rcases hown'.2 with ⟨hv, _⟩ | ⟨g, cap, cur, hv, _⟩
    · exact ⟨_, _, _, hv⟩
    · exact ⟨_, _, _, hv⟩
  have hown2 : w2.ownsRow B 5 1 (.slice ao n' cap) (l ++ [c]).length (Lib.byteCells (l ++ [c])) := by
    rw [← cells_app, List.length_append]
    exact hown'
  have hsz : w1.heap.size ≤ w2.heap.size := by
    have := hgrow.size
    simp at this
    omega
  have hfin := At.put hT.2 hB (Nat.le_trans hw1 hsz) hb2 hown2
  have hbl : Turn B b w (w2.setCell ⟨b, 1, none⟩ (.slice ao n' cap)) := ((hb1.trans (.of_below ((Below.refl _ w1).alloc (Nat.le_refl _) (.cells #[.int .u8 c.toNat] 5)) hw1)).grown (by simp; omega) (hown.alloc _) hgrow).set hB _ _
  have HF := Lib.hid (And.intro hfin hbl)
  clear hfin hbl hown2 hown' hown hgrow hb2 hbk
  go_wp2
  go_ret
  exact ⟨rfl, HF.out.1, HF.out.2⟩
set_option maxHeartbeats 1000000 in
set_option maxRecDepth 100000 in
theorem string_any {T : TypeId} {B b : Nat} {l : List UInt8} {rest : List Value} {w : World} (h : Emb T B b l rest w) (h0 : l ≠ []) :
    Calls Tryz.prog 30 #[.pointer (some ⟨b, 0, none⟩)] w fun e w' => e = .returned (.string (txt l)) ∧ Below B w w' := by
  obtain ⟨p, hB, hBw, v, hbk, hown, hne⟩ : ∃ p, At T B b p l rest w := h.elim (fun h => ⟨_, h⟩) (fun h => ⟨_, h⟩)
  have hl0 : l.length ≠ 0 := by simpa using h0
  obtain ⟨g, cap, cur, rfl, hbg, hg, hnc, hcm, hcs, htake⟩ : ∃ g cap cur, v = .slice (some ⟨g, 0, none⟩) l.length cap ∧ B ≤ g ∧ w.heap[g]? = some (.cells cur 5 (0, 0)) ∧ l.length ≤ cap ∧ cap ≤ maxLen ∧ cur.size = cap * 1 ∧ cur.toList.take (l.length * 1) = Lib.byteCells l := by
    rcases hown.2 with ⟨_, hz⟩ | ⟨g, cap, cur, hv, r⟩
    · exact absurd hz hl0
    · exact ⟨g, cap, cur, hv, r⟩
  have c1 : w.drew.cell? ⟨b, 1, none⟩ = some (.slice (some ⟨g, 0, none⟩) l.length cap) := by
    have : w.drew.heap[b]? = some (.cells (p :: .slice (some ⟨g, 0, none⟩) l.length cap :: rest).toArray T (0, 0)) := hbk
    rw [cell_of this]; rfl
  have hSD : (Builtin.unsafeSliceData_ #[60] 87 #[.slice (some ⟨g, 0, none⟩) l.length cap]).run Tryz.prog w.drew = .ok (.pointer (some ⟨g, 0, none⟩)) w.drew :=
    Lib.run_unsafeSliceData_row _ _ _ _ _ _ (by omega)
  have hUS : (Builtin.unsafeString_ #[87, 3] 9 #[.pointer (some ⟨g, 0, none⟩), .int .i64 l.length]).run Tryz.prog w.drew = .ok (.string ⟨l.toArray⟩) (w.drew.freeze ⟨g, 0, none⟩ l.length) := by
    refine Lib.run_unsafeString_row w.drew 87 3 9 5 Tryz.underlying87 cellsByte g cur.size (by have hg' : w.drew.heap[g]? = some (.cells cur 5 (0, 0)) := hg; simp [World.shape?, hg']) l h0 (by omega) (by unfold maxLen at hcm; omega) ?_
    intro j x hx
    exact hown.cells (g := g) rfl j (.int .u8 x.toNat) (by simp [Lib.byteCells, hx])
  have HB := Lib.hid (Lib.below_freeze (Below.drew (Below.refl B w)) (p := ⟨g, 0, none⟩) hbg l.length)
  have mixed : Tryz.prog.follows .mixedOrders = true := by kernel_rfl
  clear hown htake hg hbk hne hBw
  go_enter Tryz.func30, Tryz.ntmps30
  go_wp2
  go_region_o
  all_goals (go_wp2; go_ret; exact ⟨rfl, HB.out⟩)
end Go.Proofs.YtlfbnfphocpgeaaGreatDoor.Emb
