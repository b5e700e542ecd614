/- A part of what twice_holds leans on (its texts, put together). Nothing is claimed here. -/
import Derived.Test.YtlfbnfphocpgeaaGreatDoorTw42
namespace Go.Proofs.YtlfbnfphocpgeaaGreatDoor.Jenc
open Go.RowKit Kit Txt
open Tre (Val Whole HoldV Hold Holds At8 Fine Fines Mild count sort)
def vN : Val := ⟨3, false, ⟨false, [49], 0⟩, [], [], []⟩
def vEx : Val := ⟨6, false, Num.zero, [], [[98], [97]], [vN, Tre.vList]⟩
def exP : List UInt8 := [123, 34, 98, 34, 58, 49, 44, 34, 97, 34, 58, 91, 93, 125]
def exC : List UInt8 := [123, 34, 97, 34, 58, 91, 93, 44, 34, 98, 34, 58, 49, 125]
theorem ex_print : prt false 0 vEx = exP := by decide +kernel
theorem ex_canon : prt false 0 (sort vEx) = exC := by decide +kernel
theorem mild_ex : Mild vEx := by
  refine ⟨1, ?_⟩
  unfold vEx vN Tre.vList
  rw [Fine]
  refine ⟨by decide, by simp, by simp [Num.zero], by simp, ?_⟩
  rw [Fines, Fines, Fines]
  refine ⟨?_, ?_, trivial⟩
  · rw [Fine]
    exact ⟨by decide, by simp, by simp, by simp, by rw [Fines]; trivial⟩
  · rw [Fine]
    exact ⟨by decide, by simp, by simp [Num.zero], by simp, by rw [Fines]; trivial⟩
theorem whole_flat {v : Val} (h : Tre.Own v) (hk : v.kids = []) : Whole v := by
  rw [Tre.whole_iff]
  exact ⟨h, by rw [hk]; intro x hx; exact absurd hx List.not_mem_nil⟩
theorem right_ex : Tre.Right vEx := by
  refine ⟨by decide, ?_⟩
  rw [Tre.whole_iff]
  refine ⟨?_, ?_⟩
  · unfold Tre.Own
    refine ⟨by decide, by decide, fun _ => rfl, fun _ => rfl, fun _ => rfl, fun h => absurd h (by decide), fun h => absurd rfl h, Tre.right_zero, Tre.bad_none, fun _ => rfl, fun k hk => ?_, by decide⟩
    rcases List.mem_cons.1 hk with rfl | hk
    · exact Tre.bad_one (c := 98) (by decide)
    · rw [List.mem_singleton.1 hk]
      exact Tre.bad_one (c := 97) (by decide)
  · intro x hx
    rcases List.mem_cons.1 hx with e | hx
    · rw [e]
      refine whole_flat ?_ rfl
      unfold Tre.Own
      exact ⟨by decide, by decide, fun _ => rfl, fun h => absurd rfl h, fun _ => rfl, fun _ => rfl, fun _ => rfl, by decide, Tre.bad_none, fun h => absurd h (by decide), fun k hk => absurd hk List.not_mem_nil, List.nodup_nil⟩
    · rw [List.mem_singleton.1 hx]
      refine whole_flat ?_ rfl
      unfold Tre.Own
      exact ⟨by decide, by decide, fun _ => rfl, fun _ => rfl, fun _ => rfl, fun h => absurd h (by decide), fun _ => rfl, Tre.right_zero, Tre.bad_none, fun h => absurd h (by decide), fun k hk => absurd hk List.not_mem_nil, List.nodup_nil⟩
theorem hold_ex {W : World} {g1 g2 : Nat} {f1 f2 : Nat × Nat} (h1 : W.heap[g1]? = some (.cells #[.string ⟨#[98]⟩, .string ⟨#[97]⟩] 9 f1)) (h2 : W.heap[g2]? = some (.cells #[.int .i64 3, .bool false, .bool false, .string ⟨#[49]⟩, .int .i64 0, .string ⟨#[]⟩, .slice none 0 0, .slice none 0 0, .int .i64 5, .bool false, .bool false, .string ⟨#[]⟩, .int .i64 0, .string ⟨#[]⟩, .slice none 0 0, .slice none 0 0] 29 f2)) :
    HoldV W (.agg #[.int .i64 6, .bool false, .bool false, .string ⟨#[]⟩, .int .i64 0, .string ⟨#[]⟩, .slice (some ⟨g1, 0, none⟩) 2 2, .slice (some ⟨g2, 0, none⟩) 2 2]) vEx := by
  refine ⟨_, rfl, ?_⟩
  unfold vEx
  rw [Hold]
  refine ⟨_, some ⟨g2, 0, none⟩, 2, rfl, ⟨some ⟨g1, 0, none⟩, 2, rfl, Nat.le_refl _, by omega, .inr ⟨g1, 0, rfl, lt_of_heap h1, fun i l hi => ?_⟩⟩, Nat.le_refl _, by omega, .inr ⟨g2, 0, rfl, lt_of_heap h2, ?_⟩⟩
  · match i with
    | 0 =>
      simp at hi
      subst hi
      exact cell_of h1 0
    | 1 =>
      simp at hi
      subst hi
      exact cell_of h1 1
    | i + 2 => simp at hi
  · rw [Holds, Holds, Holds]
    refine ⟨⟨[.int .i64 3, .bool false, .bool false, .string ⟨#[49]⟩, .int .i64 0, .string ⟨#[]⟩, .slice none 0 0, .slice none 0 0], ⟨rfl, fun j hj => ?_⟩, ?_⟩, ⟨[.int .i64 5, .bool false, .bool false, .string ⟨#[]⟩, .int .i64 0, .string ⟨#[]⟩, .slice none 0 0, .slice none 0 0], ⟨rfl, fun j hj => ?_⟩, ?_⟩, trivial⟩
    · rw [cell_of h2]
      match j, hj with
      | 0, _ | 1, _ | 2, _ | 3, _ | 4, _ | 5, _ | 6, _ | 7, _ => rfl
    · unfold vN
      rw [Hold]
      exact ⟨_, none, 0, rfl, ⟨none, 0, rfl, Nat.le_refl _, by omega, .inl rfl⟩, Nat.le_refl _, by omega, .inl rfl⟩
    · rw [cell_of h2]
      match j, hj with
      | 0, _ | 1, _ | 2, _ | 3, _ | 4, _ | 5, _ | 6, _ | 7, _ => rfl
    · unfold Tre.vList
      rw [Hold]
      exact ⟨_, none, 0, rfl, ⟨none, 0, rfl, Nat.le_refl _, by omega, .inl rfl⟩, Nat.le_refl _, by omega, .inl rfl⟩
set_option maxRecDepth 100000 in
set_option maxHeartbeats 4000000 in
theorem wakes_any {w : World} (hl : Utf.Laid w) (hp : Num.Pow w) : Calls Tryz.prog 12 #[] w fun e w' => e = .returned (.bool true) ∧ Below w.heap.size w w' := by
  obtain ⟨W, hW⟩ : ∃ W, (((w.alloc (.cells #[.string ⟨#[98]⟩, .string ⟨#[97]⟩] 9)).alloc (.cells #[.int .i64 3, .bool false, .bool false, .string ⟨#[49]⟩, .int .i64 0, .string ⟨#[]⟩, .slice none 0 0, .slice none 0 0, .int .i64 5, .bool false, .bool false, .string ⟨#[]⟩, .int .i64 0, .string ⟨#[]⟩, .slice none 0 0, .slice none 0 0] 29)).alloc (.cells #[.int .i64 6, .bool false, .bool false, .string ⟨#[]⟩, .int .i64 0, .string ⟨#[]⟩, .slice (some ⟨w.heap.size, 0, none⟩) 2 2, .slice (some ⟨w.heap.size + 1, 0, none⟩) 2 2] 29)) = W := ⟨_, rfl⟩
  have bW : Below w.heap.size w W := by rw [← hW]; exact (((Below.refl _ w).alloc (by simp; try omega) _).alloc (by simp; try omega) _).alloc (by simp; try omega) _
  have q1 : W.heap[w.heap.size]? = some (.cells #[.string ⟨#[98]⟩, .string ⟨#[97]⟩] 9 (0, 0)) := by
    rw [← hW]
    exact new_of (new_of (World.alloc_heap_new w _) _) _
  have q2 : W.heap[w.heap.size + 1]? = some (.cells #[.int .i64 3, .bool false, .bool false, .string ⟨#[49]⟩, .int .i64 0, .string ⟨#[]⟩, .slice none 0 0, .slice none 0 0, .int .i64 5, .bool false, .bool false, .string ⟨#[]⟩, .int .i64 0, .string ⟨#[]⟩, .slice none 0 0, .slice none 0 0] 29 (0, 0)) := by
    rw [← hW]
    have := World.alloc_heap_new (w.alloc (.cells #[.string ⟨#[98]⟩, .string ⟨#[97]⟩] 9)) (.cells #[.int .i64 3, .bool false, .bool false, .string ⟨#[49]⟩, .int .i64 0, .string ⟨#[]⟩, .slice none 0 0, .slice none 0 0, .int .i64 5, .bool false, .bool false, .string ⟨#[]⟩, .int .i64 0, .string ⟨#[]⟩, .slice none 0 0, .slice none 0 0] 29)
    simp only [World.size_alloc] at this
    exact new_of this _
  have q3 : W.heap[w.heap.size + 1 + 1]? = some (.cells #[.int .i64 6, .bool false, .bool false, .string ⟨#[]⟩, .int .i64 0, .string ⟨#[]⟩, .slice (some ⟨w.heap.size, 0, none⟩) 2 2, .slice (some ⟨w.heap.size + 1, 0, none⟩) 2 2] 29 (0, 0)) := by
    rw [← hW]
    have := World.alloc_heap_new ((w.alloc (.cells #[.string ⟨#[98]⟩, .string ⟨#[97]⟩] 9)).alloc (.cells #[.int .i64 3, .bool false, .bool false, .string ⟨#[49]⟩, .int .i64 0, .string ⟨#[]⟩, .slice none 0 0, .slice none 0 0, .int .i64 5, .bool false, .bool false, .string ⟨#[]⟩, .int .i64 0, .string ⟨#[]⟩, .slice none 0 0, .slice none 0 0] 29)) (.cells #[.int .i64 6, .bool false, .bool false, .string ⟨#[]⟩, .int .i64 0, .string ⟨#[]⟩, .slice (some ⟨w.heap.size, 0, none⟩) 2 2, .slice (some ⟨w.heap.size + 1, 0, none⟩) 2 2] 29)
    simp only [World.size_alloc] at this
    exact this
  have hc : 5 * count vEx ≤ 100000 := by decide
  have hE := hold_ex q1 q2
  have H1 := print_any right_ex mild_ex hc hE (hl.below bW hl.lt) (hp.below bW)
  have H2 := fun (wx : World) (kx : Below W.heap.size W wx) => canon_any right_ex mild_ex hc (hE.below kx) (hl.below (bW.trans (kx.mono bW.size)) hl.lt) (hp.below (bW.trans (kx.mono bW.size)))
  rw [ex_print] at H1
  simp only [ex_canon] at H2
  have tP : (⟨#[123, 34, 98, 34, 58, 49, 44, 34, 97, 34, 58, 91, 93, 125]⟩ : ByteArray) = txt exP := rfl
  have tC : (⟨#[123, 34, 97, 34, 58, 91, 93, 44, 34, 98, 34, 58, 49, 125]⟩ : ByteArray) = txt exC := rfl
  generalize exP = lP at *
  generalize exC = lC at *
  have HW := Lib.hid hW
  have H1 := Lib.hid H1
  have H2 := Lib.hid H2
  have Q3 := Lib.hid q3
  have HB := Lib.hid bW
  clear hW q1 q2 hE hl hp hc bW q3
  go_enter Tryz.func12, Tryz.ntmps12
  go_wp2_with fail
  rw [HW.out]
  refine H1.out.mono ?_
  rintro e w1 ⟨rfl, k1⟩
  obtain ⟨c0, c1, c2, c3, c4, c5, c6, c7⟩ := Tre.eight ((k1.block _ (lt_of_heap Q3.out)).trans Q3.out)
  have HC := Lib.hid (H2.out _ k1)
  have HB1 := Lib.hid (HB.out.trans (k1.mono HB.out.size))
  clear k1
  go_wp2_with fail
  refine HC.out.mono ?_
  rintro e w2 ⟨rfl, k2⟩
  have HB2 := Lib.hid (HB1.out.trans (k2.mono HB1.out.size))
  clear k2
  go_wp2_with fail
  go_ret
  exact ⟨rfl, HB2.out⟩
end Go.Proofs.YtlfbnfphocpgeaaGreatDoor.Jenc
namespace Go.Proofs.YtlfbnfphocpgeaaGreatDoor.Quo
theorem coded_size {l : List UInt8} (h : (coded l).e = 0) : (coded l).s.length ≤ (coded l).size := by
  obtain ⟨c, _, h2, h3, _⟩ := coded_ok h
  have := Utf.enc_len (c := c)
  rw [h2]
  omega
theorem part_size {l : List UInt8} (h : (part l).e = 0) : (part l).s.length ≤ (part l).size := by
  match l, h with
  | [], h => cases h
  | c :: r, h =>
    unfold part at h ⊢
    dsimp only at h ⊢
    by_cases c1 : c.toNat < 32
    · rw [if_pos c1] at h; cases h
    rw [if_neg c1] at h ⊢
    by_cases c2 : c ≠ 92
    · rw [if_pos c2] at h ⊢
      by_cases c3 : (Utf.one (c :: r)).2 = 0
      · rw [if_pos c3] at h; cases h
      rw [if_neg c3]
      obtain ⟨h1, h2, h3⟩ := Utf.one_bytes c3
      dsimp only
      rw [List.length_take]
      omega
    rw [if_neg c2] at h ⊢
    match r, h with
    | [], h => cases h
    | d :: r', h =>
      dsimp only at h ⊢
      cases hs : sign d with
      | some x => show 1 ≤ 2; omega
      | none =>
        rw [hs] at h
        dsimp only at h ⊢
        by_cases c4 : d = 117
        · rw [if_pos c4] at h ⊢
          exact coded_size h
        · rw [if_neg c4] at h; cases h
theorem scanF_size : ∀ (k : Nat) (l : List UInt8), l.length = k → ∀ (s : List UInt8) (at' : Nat), (scanF s at' l).e = 0 → (scanF s at' l).s.length + at' + 1 ≤ s.length + (scanF s at' l).size := by
  intro k
  induction k using Nat.strongRecOn with
  | ind k ih =>
    intro l hl s at' h
    by_cases h1 : l.head? = some 34
    · rw [scanF_end h1]
      dsimp only
      omega
    · by_cases he : (part l).e = 0
      · rw [scanF_on h1 he] at h ⊢
        obtain ⟨c, k1, k2, k3, k4⟩ := part_ok he
        have := ih (l.drop (part l).size).length (by rw [List.length_drop]; omega) _ rfl _ _ h
        have := part_size he
        rw [List.length_append] at *
        omega
      · rw [scanF_err h1 he] at h
        exact absurd h he
theorem scan_size {l : List UInt8} (h : (scan l).e = 0) : (scan l).s.length + 2 ≤ (scan l).size ∧ (scan l).size ≤ l.length := by
  unfold scan at h ⊢
  split at h
  · cases h
  · rename_i c r
    split at h
    · cases h
    · rename_i hc
      rw [if_neg hc]
      have h1 := scanF_size r.length r rfl [] 1 h
      have h2 := (scanF_ok r.length r rfl [] 1 (by unfold Utf.bad; rw [Utf.scan_nil]) h).2.2
      simp only [List.length_nil, List.length_cons] at *
      omega
end Go.Proofs.YtlfbnfphocpgeaaGreatDoor.Quo
namespace Go.Proofs.YtlfbnfphocpgeaaGreatDoor.Num
theorem mant_short : ∀ (M : List UInt8) (st : Bool × Int × List UInt8), (M.foldl mantStep st).2.2.length ≤ st.2.2.length + M.length
  | [], st => by simp
  | c :: M, st => by
    rw [List.foldl_cons]
    have := mant_short M (mantStep st c)
    have h2 : (mantStep st c).2.2.length ≤ st.2.2.length + 1 := by
      unfold mantStep
      split
      · dsimp only; omega
      · dsimp only
        split
        · simp
        · omega
    simp only [List.length_cons]
    omega
theorem strip_short (d : List UInt8) (e : Int) : (strip d e).1.length ≤ d.length := by
  unfold strip
  dsimp only
  rw [List.length_reverse]
  have := (List.dropWhile_suffix (p := z48) (l := d.reverse)).length_le
  rwa [List.length_reverse] at this
theorem norm_short (n : Bool) (d : List UInt8) (e : Int) : (norm n d e).1.dig.length ≤ d.length := by
  have := strip_short d e
  unfold norm
  split
  · exact Nat.zero_le _
  · split
    · exact this
    · exact Nat.zero_le _
theorem parse_short (l : List UInt8) : (parse l).1.dig.length ≤ l.length := by
  unfold parse
  split
  · exact Nat.zero_le _
  · refine Nat.le_trans (norm_short _ _ _) ?_
    have h1 := mant_short (mantL l (neg0 l)) (false, 0, [])
    have h2 : (mantL l (neg0 l)).length ≤ l.length := by
      unfold mantL
      have a := (List.takeWhile_prefix (p := noE) (l := l.drop (neg0 l))).length_le
      rw [List.length_drop] at a
      omega
    unfold mant
    simp only [List.length_nil] at h1
    omega
end Go.Proofs.YtlfbnfphocpgeaaGreatDoor.Num
namespace Go.Proofs.YtlfbnfphocpgeaaGreatDoor.Jdec
open Tre (Val none' Whole Wholes deep deeps Fine Fines Mild count counts)
open Jenc (siz sizs klen sizs_snoc)
theorem word_take (v : Val) : ∀ (w l r : List UInt8) (x : Val), word v w l = .ok x r → r.length + w.length = l.length
  | [], l, r, x, h => by
    unfold word at h
    injection h with h1 h2
    rw [h2]
    simp
  | c :: w, [], r, x, h => by
    unfold word at h
    cases h
  | c :: w, d :: l, r, x, h => by
    unfold word at h
    split at h
    · have := word_take v w l r x h
      simp only [List.length_cons]
      omega
    · cases h
theorem klen_snoc (a : List (List UInt8)) (k : List UInt8) : klen (a ++ [k]) = klen a + (6 * k.length + 10) := by
  unfold klen
  simp
theorem field_take {keys : List (List UInt8)} {l k r : List UInt8} (h : field keys l = .ok k r) : k.length + 3 + r.length ≤ l.length := by
  unfold field at h
  split at h
  · unfold here at h; split at h <;> cases h
  · split at h
    · cases h
    · rename_i he
      split at h
      · cases h
      · split at h
        · unfold here at h; split at h <;> cases h
        · rename_i hc
          injection h with h1 h2
          obtain ⟨s1, s2⟩ := Quo.scan_size (l := l) (by simpa using he)
          have a1 := skip_le (l.drop (Quo.scan l).size)
          have a2 := skip_le (skip (l.drop (Quo.scan l).size)).tail
          have a3 : 0 < (skip (l.drop (Quo.scan l).size)).length := by
            cases hs : skip (l.drop (Quo.scan l).size) with
            | nil => rw [hs] at hc; simp at hc
            | cons _ _ => simp
          rw [List.length_drop] at a1
          rw [List.length_tail] at a2
          rw [← h1, ← h2]
          omega
theorem number_take {l r : List UInt8} {v : Val} (h : number l = .ok v r) : ∃ n, 1 ≤ n ∧ n + r.length = l.length ∧ v.num.dig.length ≤ n ∧ v.str = [] ∧ v.keys = [] ∧ v.kids = [] := by
  unfold number at h
  split at h
  · split at h <;> cases h
  · rename_i h0
    split at h
    · cases h
    · injection h with h1 h2
      have := num_le l
      have h3 := Num.parse_short (l.take (Num.scan l))
      rw [List.length_take] at h3
      refine ⟨Num.scan l, by omega, ?_, ?_, ?_, ?_, ?_⟩
      · rw [← h2, List.length_drop]; omega
      · rw [← h1]; show (Num.parse (l.take (Num.scan l))).1.dig.length ≤ _; omega
      all_goals
        subst h1
        rfl
theorem text_take {l r : List UInt8} {v : Val} (h : text l = .ok v r) : v.str.length + 2 + r.length ≤ l.length ∧ v.num.dig = [] ∧ v.keys = [] ∧ v.kids = [] := by
  unfold text at h
  split at h
  · cases h
  · rename_i he
    injection h with h1 h2
    obtain ⟨s1, s2⟩ := Quo.scan_size (l := l) (by simpa using he)
    rw [← h1, ← h2, List.length_drop]
    refine ⟨by show (Quo.scan l).s.length + 2 + _ ≤ _; omega, rfl, rfl, rfl⟩
def CostA (val : List UInt8 → Got Val) : Prop := ∀ (l r : List UInt8) (v : Val), val l = .ok v r → siz 1 v + 7 * r.length ≤ 7 * l.length
theorem siz_flatA {v : Val} (h1 : v.keys = []) (h2 : v.kids = []) : siz 1 v = 1 + 6 * v.str.length + v.num.dig.length := by
  obtain ⟨k, i, n, s, ks, vs⟩ := v
  have h1 : ks = [] := h1
  have h2 : vs = [] := h2
  subst h1 h2
  rw [siz, sizs]
  rfl
theorem made_sizA (obj : Bool) (keys : List (List UInt8)) (kids : List Val) : siz 1 (made obj keys kids) = 1 + klen keys + sizs 1 kids := by
  unfold made
  rw [siz]
  rfl
theorem named_costA {obj : Bool} {keys ks : List (List UInt8)} {l r : List UInt8} (h : named obj keys l = .ok ks r) : klen ks + 7 * r.length ≤ klen keys + 7 * l.length := by
  unfold named at h
  cases obj with
  | false =>
    simp only [Bool.false_eq_true, if_false] at h
    injection h with h1 h2
    rw [h1, h2]
    exact Nat.le_refl _
  | true =>
    simp only [if_true] at h
    cases hf : field keys l with
    | no r e => rw [hf] at h; cases h
    | ok k r' =>
      rw [hf] at h
      injection h with h1 h2
      have := field_take hf
      rw [← h1, klen_snoc, ← h2]
      omega
theorem items_costA {val : List UInt8 → Got Val} (hd : CostA val) : ∀ (n : Nat) (l : List UInt8), l.length = n → ∀ (obj : Bool) (keys : List (List UInt8)) (kids : List Val) (v : Val) (r : List UInt8),
    items val obj keys kids l = .ok v r → siz 1 v + 7 * r.length ≤ 1 + klen keys + sizs 1 kids + 7 * l.length := by
  intro n
  induction n using Nat.strongRecOn with
  | ind n ih =>
    intro l hn obj keys kids v r h
    unfold items at h
    cases hf : named obj keys l with
    | no r e => rw [hf] at h; cases h
    | ok ks l1 =>
      rw [hf] at h
      dsimp only at h
      have hk := named_costA hf
      cases hg : val l1 with
      | no r e => rw [hg] at h; cases h
      | ok x r1 =>
        rw [hg] at h
        dsimp only at h
        have hx := hd _ _ _ hg
        have hs := skip_le r1
        have hs2 := skip_le (skip r1).tail
        rw [List.length_tail] at hs2
        by_cases c1 : (skip r1).head? = some (close obj)
        · rw [if_pos c1] at h
          injection h with h1 h2
          rw [← h1, ← h2, made_sizA, sizs_snoc, List.length_tail]
          omega
        · rw [if_neg c1] at h
          by_cases c2 : (skip r1).head? ≠ some 44
          · rw [if_pos c2] at h
            unfold here at h
            split at h <;> cases h
          · rw [if_neg c2] at h
            split at h
            · rename_i hlt
              have := ih _ (by omega) _ rfl obj ks _ _ _ h
              rw [sizs_snoc] at this
              omega
            · cases h
theorem many_costA {val : List UInt8 → Got Val} (hd : CostA val) {l r : List UInt8} {v : Val} (hl : 0 < l.length) (h : many val l = .ok v r) : siz 1 v + 7 * r.length ≤ 7 * l.length := by
  have hs := skip_le l.tail
  rw [List.length_tail] at hs
  unfold many at h
  split at h
  · injection h with h1 h2
    rw [← h1, ← h2, made_sizA, List.length_tail]
    unfold klen
    simp only [List.map_nil, List.sum_nil, sizs]
    omega
  · have := items_costA hd _ _ rfl _ _ _ _ _ h
    unfold klen at this
    simp only [List.map_nil, List.sum_nil, sizs] at this
    omega
theorem value_costA : ∀ k : Nat, CostA (value k)
  | 0, l, r, v, h => by
    unfold value at h
    split at h
    · cases h
    · split at h <;> cases h
  | k + 1, l, r, v, h => by
    have hw : ∀ (x : Val) (W : List UInt8), x.keys = [] → x.kids = [] → x.str = [] → x.num.dig = [] → 4 ≤ W.length → word x W l = .ok v r → siz 1 v + 7 * r.length ≤ 7 * l.length := fun x W a1 a2 a3 a4 a5 hh => by
      have e1 := (word_left _ [] _ _ _ _ hh).2
      have e2 := word_take _ _ _ _ _ hh
      rw [e1, siz_flatA a1 a2, a3, a4]
      simp only [List.length_nil]
      omega
    unfold value at h
    split at h
    · cases h
    · rename_i c0 hc0
      have hl : 0 < l.length := by
        cases l with
        | nil => cases hc0
        | cons _ _ => simp
      split at h
      · unfold read at h
        split at h
        · cases h
        · split at h
          · obtain ⟨n, n1, n2, n3, n4, n5, n6⟩ := number_take h
            rw [siz_flatA n5 n6, n4]
            simp only [List.length_nil]
            omega
          · split at h
            · exact hw _ _ rfl rfl rfl rfl (by decide) h
            · split at h
              · exact hw _ _ rfl rfl rfl rfl (by decide) h
              · split at h
                · exact hw _ _ rfl rfl rfl rfl (by decide) h
                · split at h
                  · obtain ⟨t1, t2, t3, t4⟩ := text_take h
                    rw [siz_flatA t3 t4, t2]
                    simp only [List.length_nil]
                    omega
                  · exact many_costA (value_costA k) hl h
      · cases h
theorem parse_costA {s r : List UInt8} {v : Val} (h : parse s = .ok v r) : siz 1 v ≤ 7 * s.length := by
  obtain ⟨q, hv, -⟩ := parse_ok h
  have := skip_le s
  have := value_costA 64 _ _ _ hv
  omega
def CostB (val : List UInt8 → Got Val) : Prop := ∀ (l r : List UInt8) (v : Val), val l = .ok v r → siz 30 v + 31 * r.length ≤ 31 * l.length
theorem siz_flatB {v : Val} (h1 : v.keys = []) (h2 : v.kids = []) : siz 30 v = 30 + 6 * v.str.length + v.num.dig.length := by
  obtain ⟨k, i, n, s, ks, vs⟩ := v
  have h1 : ks = [] := h1
  have h2 : vs = [] := h2
  subst h1 h2
  rw [siz, sizs]
  rfl
theorem made_sizB (obj : Bool) (keys : List (List UInt8)) (kids : List Val) : siz 30 (made obj keys kids) = 30 + klen keys + sizs 30 kids := by
  unfold made
  rw [siz]
  rfl
theorem named_costB {obj : Bool} {keys ks : List (List UInt8)} {l r : List UInt8} (h : named obj keys l = .ok ks r) : klen ks + 31 * r.length ≤ klen keys + 31 * l.length := by
  unfold named at h
  cases obj with
  | false =>
    simp only [Bool.false_eq_true, if_false] at h
    injection h with h1 h2
    rw [h1, h2]
    exact Nat.le_refl _
  | true =>
    simp only [if_true] at h
    cases hf : field keys l with
    | no r e => rw [hf] at h; cases h
    | ok k r' =>
      rw [hf] at h
      injection h with h1 h2
      have := field_take hf
      rw [← h1, klen_snoc, ← h2]
      omega
theorem items_costB {val : List UInt8 → Got Val} (hd : CostB val) : ∀ (n : Nat) (l : List UInt8), l.length = n → ∀ (obj : Bool) (keys : List (List UInt8)) (kids : List Val) (v : Val) (r : List UInt8),
    items val obj keys kids l = .ok v r → siz 30 v + 31 * r.length ≤ 30 + klen keys + sizs 30 kids + 31 * l.length := by
  intro n
  induction n using Nat.strongRecOn with
  | ind n ih =>
    intro l hn obj keys kids v r h
    unfold items at h
    cases hf : named obj keys l with
    | no r e => rw [hf] at h; cases h
    | ok ks l1 =>
      rw [hf] at h
      dsimp only at h
      have hk := named_costB hf
      cases hg : val l1 with
      | no r e => rw [hg] at h; cases h
      | ok x r1 =>
        rw [hg] at h
        dsimp only at h
        have hx := hd _ _ _ hg
        have hs := skip_le r1
        have hs2 := skip_le (skip r1).tail
        rw [List.length_tail] at hs2
        by_cases c1 : (skip r1).head? = some (close obj)
        · rw [if_pos c1] at h
          injection h with h1 h2
          rw [← h1, ← h2, made_sizB, sizs_snoc, List.length_tail]
          omega
        · rw [if_neg c1] at h
          by_cases c2 : (skip r1).head? ≠ some 44
          · rw [if_pos c2] at h
            unfold here at h
            split at h <;> cases h
          · rw [if_neg c2] at h
            split at h
            · rename_i hlt
              have := ih _ (by omega) _ rfl obj ks _ _ _ h
              rw [sizs_snoc] at this
              omega
            · cases h
theorem many_costB {val : List UInt8 → Got Val} (hd : CostB val) {l r : List UInt8} {v : Val} (hl : 0 < l.length) (h : many val l = .ok v r) : siz 30 v + 31 * r.length ≤ 31 * l.length := by
  have hs := skip_le l.tail
  rw [List.length_tail] at hs
  unfold many at h
  split at h
  · injection h with h1 h2
    rw [← h1, ← h2, made_sizB, List.length_tail]
    unfold klen
    simp only [List.map_nil, List.sum_nil, sizs]
    omega
  · have := items_costB hd _ _ rfl _ _ _ _ _ h
    unfold klen at this
    simp only [List.map_nil, List.sum_nil, sizs] at this
    omega
theorem value_costB : ∀ k : Nat, CostB (value k)
  | 0, l, r, v, h => by
    unfold value at h
    split at h
    · cases h
    · split at h <;> cases h
  | k + 1, l, r, v, h => by
    have hw : ∀ (x : Val) (W : List UInt8), x.keys = [] → x.kids = [] → x.str = [] → x.num.dig = [] → 4 ≤ W.length → word x W l = .ok v r → siz 30 v + 31 * r.length ≤ 31 * l.length := fun x W a1 a2 a3 a4 a5 hh => by
      have e1 := (word_left _ [] _ _ _ _ hh).2
      have e2 := word_take _ _ _ _ _ hh
      rw [e1, siz_flatB a1 a2, a3, a4]
      simp only [List.length_nil]
      omega
    unfold value at h
    split at h
    · cases h
    · rename_i c0 hc0
      have hl : 0 < l.length := by
        cases l with
        | nil => cases hc0
        | cons _ _ => simp
      split at h
      · unfold read at h
        split at h
        · cases h
        · split at h
          · obtain ⟨n, n1, n2, n3, n4, n5, n6⟩ := number_take h
            rw [siz_flatB n5 n6, n4]
            simp only [List.length_nil]
            omega
          · split at h
            · exact hw _ _ rfl rfl rfl rfl (by decide) h
            · split at h
              · exact hw _ _ rfl rfl rfl rfl (by decide) h
              · split at h
                · exact hw _ _ rfl rfl rfl rfl (by decide) h
                · split at h
                  · obtain ⟨t1, t2, t3, t4⟩ := text_take h
                    rw [siz_flatB t3 t4, t2]
                    simp only [List.length_nil]
                    omega
                  · exact many_costB (value_costB k) hl h
      · cases h
theorem parse_costB {s r : List UInt8} {v : Val} (h : parse s = .ok v r) : siz 30 v ≤ 31 * s.length := by
  obtain ⟨q, hv, -⟩ := parse_ok h
  have := skip_le s
  have := value_costB 64 _ _ _ hv
  omega
mutual
theorem count_siz : ∀ v : Val, count v ≤ siz 1 v
  | ⟨k, i, n, s, ks, vs⟩ => by
    have h1 := counts_sizs vs
    have h2 : ks.length ≤ klen ks := by
      unfold klen
      induction ks with
      | nil => simp
      | cons x r ih => simp only [List.length_cons, List.map_cons, List.sum_cons]; omega
    rw [count, siz]
    omega
theorem counts_sizs : ∀ vs : List Val, counts vs ≤ sizs 1 vs
  | [] => Nat.zero_le _
  | v :: r => by
    have h1 := count_siz v
    have h2 := counts_sizs r
    rw [counts, sizs]
    omega
end
theorem klen_mem {ks : List (List UInt8)} {x : List UInt8} (h : x ∈ ks) : 6 * x.length ≤ klen ks := by
  unfold klen
  induction ks with
  | nil => cases h
  | cons y r ih =>
    simp only [List.map_cons, List.sum_cons]
    rcases List.mem_cons.1 h with rfl | h
    · omega
    · have := ih h
      omega
mutual
theorem fine_siz : ∀ (v : Val) (d : Nat), siz 1 v ≤ 12000 → Whole v → d + deep v ≤ 70 → Fine d v
  | ⟨k, i, n, s, ks, vs⟩, d, hs, hw, hd => by
    rw [Whole] at hw
    obtain ⟨ho, hws⟩ := hw
    rw [siz] at hs
    have hr : n.dig.length ≤ 1000 := by
      have hn : Num.Right n := ho.2.2.2.2.2.2.2.1
      unfold Num.Right at hn
      split at hn
      · rename_i e
        rw [e]
        simp
      · exact hn.1
    rw [Fine]
    refine ⟨by omega, by omega, by omega, fun x hx => ?_, ?_⟩
    · have := klen_mem hx
      omega
    · by_cases h56 : k = 5 ∨ k = 6
      · rw [deep, if_pos h56] at hd
        exact fines_siz vs (d + 1) (by omega) hws (by omega)
      · have hk : vs = [] := ho.2.2.2.2.2.1 (by
          have h1 : (1 : Int) ≤ k := ho.1
          have h2 : k ≤ 6 := ho.2.1
          show k < 5
          omega)
        rw [hk, Fines]
        trivial
theorem fines_siz : ∀ (vs : List Val) (d : Nat), sizs 1 vs ≤ 12000 → Wholes vs → d + deeps vs ≤ 70 → Fines d vs
  | [], d, _, _, _ => by rw [Fines]; trivial
  | v :: r, d, hs, hw, hd => by
    rw [sizs] at hs
    rw [Wholes] at hw
    rw [deeps] at hd
    rw [Fines]
    exact ⟨fine_siz v d (by omega) hw.1 (by omega), fines_siz r d (by omega) hw.2 (by omega)⟩
end
theorem parse_mild {s r : List UInt8} {v : Val} (hs : s.length ≤ 1500) (h : parse s = .ok v r) : Tre.Right v ∧ Mild v ∧ 5 * count v ≤ 100000 ∧ (Jenc.prt false 0 v).length < 50000 ∧ (Jenc.prt false 0 (Tre.sort v)).length < 50000 := by
  have hg := parse_good s
  rw [h] at hg
  have hr : Tre.Right v := hg.2.2
  have hA := parse_costA h
  have hB := parse_costB h
  have hc := count_siz v
  have h1 := Jenc.narrow_len v 0 hr.2
  have h2 := Jenc.narrow_len (Tre.sort v) 0 (Tre.sort_whole v hr.2)
  rw [Jenc.siz_sort 30 v hr.2] at h2
  exact ⟨hr, ⟨1, fine_siz v 1 (by omega) hr.2 (by have := hr.1; omega)⟩, by omega, by omega, by omega⟩
end Go.Proofs.YtlfbnfphocpgeaaGreatDoor.Jdec
