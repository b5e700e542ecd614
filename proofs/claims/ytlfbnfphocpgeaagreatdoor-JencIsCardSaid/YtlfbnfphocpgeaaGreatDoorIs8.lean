/- A part of what is_holds leans on (its texts, put together). Nothing is claimed here. -/
import Derived.Test.YtlfbnfphocpgeaaGreatDoorIs7
namespace Go.Proofs.YtlfbnfphocpgeaaGreatDoor.Quo
theorem coded_size {l : List UInt8} (h : (coded l).e = 0) : (coded l).s.length ≤ (coded l).size := by
 obtain ⟨c, _, h2, h3, _⟩ := coded_ok h
 have := Utf.enc_len (c := c)
 rw [h2]
 omega
theorem part_size {l : List UInt8} (h : (part l).e = 0) : (part l).s.length ≤ (part l).size := by
 match l, h with
 | [], h => cases h
 | c :: r, h =>
   unfold part at h ⊢
   dsimp only at h ⊢
   by_cases c1 : c.toNat < 32
   · rw [if_pos c1] at h; cases h
   rw [if_neg c1] at h ⊢
   by_cases c2 : c ≠ 92
   · rw [if_pos c2] at h ⊢
     by_cases c3 : (Utf.one (c :: r)).2 = 0
     · rw [if_pos c3] at h; cases h
     rw [if_neg c3]
     obtain ⟨h1, h2, h3⟩ := Utf.one_bytes c3
     dsimp only
     rw [List.length_take]
     omega
   rw [if_neg c2] at h ⊢
   match r, h with
   | [], h => cases h
   | d :: r', h =>
     dsimp only at h ⊢
     cases hs : sign d with
     | some x => show 1 ≤ 2; omega
     | none =>
       rw [hs] at h
       dsimp only at h ⊢
       by_cases c4 : d = 117
       · rw [if_pos c4] at h ⊢
         exact coded_size h
       · rw [if_neg c4] at h; cases h
theorem scanF_size : ∀ (k : Nat) (l : List UInt8), l.length = k → ∀ (s : List UInt8) (at' : Nat), (scanF s at' l).e = 0 → (scanF s at' l).s.length + at' + 1 ≤ s.length + (scanF s at' l).size := by
 intro k
 induction k using Nat.strongRecOn with
 | ind k ih =>
   intro l hl s at' h
   by_cases h1 : l.head? = some 34
   · rw [scanF_end h1]
     dsimp only
     omega
   · by_cases he : (part l).e = 0
     · rw [scanF_on h1 he] at h ⊢
       obtain ⟨c, k1, k2, k3, k4⟩ := part_ok he
       have := ih (l.drop (part l).size).length (by rw [List.length_drop]; omega) _ rfl _ _ h
       have := part_size he
       rw [List.length_append] at *
       omega
     · rw [scanF_err h1 he] at h
       exact absurd h he
theorem scan_size {l : List UInt8} (h : (scan l).e = 0) : (scan l).s.length + 2 ≤ (scan l).size ∧ (scan l).size ≤ l.length := by
 unfold scan at h ⊢
 split at h
 · cases h
 · rename_i c r
   split at h
   · cases h
   · rename_i hc
     rw [if_neg hc]
     have h1 := scanF_size r.length r rfl [] 1 h
     have h2 := (scanF_ok r.length r rfl [] 1 (by unfold Utf.bad; rw [Utf.scan_nil]) h).2.2
     simp only [List.length_nil, List.length_cons] at *
     omega
end Go.Proofs.YtlfbnfphocpgeaaGreatDoor.Quo
namespace Go.Proofs.YtlfbnfphocpgeaaGreatDoor.Num
theorem mant_short : ∀ (M : List UInt8) (st : Bool × Int × List UInt8), (M.foldl mantStep st).2.2.length ≤ st.2.2.length + M.length
 | [], st => by simp
 | c :: M, st => by
   rw [List.foldl_cons]
   have := mant_short M (mantStep st c)
   have h2 : (mantStep st c).2.2.length ≤ st.2.2.length + 1 := by
     unfold mantStep
     split
     · dsimp only; omega
     · dsimp only
       split
       · simp
       · omega
   simp only [List.length_cons]
   omega
theorem strip_short (d : List UInt8) (e : Int) : (strip d e).1.length ≤ d.length := by
 unfold strip
 dsimp only
 rw [List.length_reverse]
 have := (List.dropWhile_suffix (p := z48) (l := d.reverse)).length_le
 rwa [List.length_reverse] at this
theorem norm_short (n : Bool) (d : List UInt8) (e : Int) : (norm n d e).1.dig.length ≤ d.length := by
 have := strip_short d e
 unfold norm
 split
 · exact Nat.zero_le _
 · split
   · exact this
   · exact Nat.zero_le _
theorem parse_short (l : List UInt8) : (parse l).1.dig.length ≤ l.length := by
 unfold parse
 split
 · exact Nat.zero_le _
 · refine Nat.le_trans (norm_short _ _ _) ?_
   have h1 := mant_short (mantL l (neg0 l)) (false, 0, [])
   have h2 : (mantL l (neg0 l)).length ≤ l.length := by
     unfold mantL
     have a := (List.takeWhile_prefix (p := noE) (l := l.drop (neg0 l))).length_le
     rw [List.length_drop] at a
     omega
   unfold mant
   simp only [List.length_nil] at h1
   omega
end Go.Proofs.YtlfbnfphocpgeaaGreatDoor.Num
namespace Go.Proofs.YtlfbnfphocpgeaaGreatDoor.Jdec
open Tre (Val none' Whole Wholes deep deeps Fine Fines Mild count counts)
open Jenc (siz sizs klen sizs_snoc)
theorem word_take (v : Val) : ∀ (w l r : List UInt8) (x : Val), word v w l = .ok x r → r.length + w.length = l.length
 | [], l, r, x, h => by
   unfold word at h
   injection h with h1 h2
   rw [h2]
   simp
 | c :: w, [], r, x, h => by
   unfold word at h
   cases h
 | c :: w, d :: l, r, x, h => by
   unfold word at h
   split at h
   · have := word_take v w l r x h
     simp only [List.length_cons]
     omega
   · cases h
theorem klen_snoc (a : List (List UInt8)) (k : List UInt8) : klen (a ++ [k]) = klen a + (6 * k.length + 10) := by
 unfold klen
 simp
theorem field_take {keys : List (List UInt8)} {l k r : List UInt8} (h : field keys l = .ok k r) : k.length + 3 + r.length ≤ l.length := by
 unfold field at h
 split at h
 · unfold here at h; split at h <;> cases h
 · split at h
   · cases h
   · rename_i he
     split at h
     · cases h
     · split at h
       · unfold here at h; split at h <;> cases h
       · rename_i hc
         injection h with h1 h2
         obtain ⟨s1, s2⟩ := Quo.scan_size (l := l) (by simpa using he)
         have a1 := skip_le (l.drop (Quo.scan l).size)
         have a2 := skip_le (skip (l.drop (Quo.scan l).size)).tail
         have a3 : 0 < (skip (l.drop (Quo.scan l).size)).length := by
           cases hs : skip (l.drop (Quo.scan l).size) with
           | nil => rw [hs] at hc; simp at hc
           | cons _ _ => simp
         rw [List.length_drop] at a1
         rw [List.length_tail] at a2
         rw [← h1, ← h2]
         omega
theorem number_take {l r : List UInt8} {v : Val} (h : number l = .ok v r) : ∃ n, 1 ≤ n ∧ n + r.length = l.length ∧ v.num.dig.length ≤ n ∧ v.str = [] ∧ v.keys = [] ∧ v.kids = [] := by
 unfold number at h
 split at h
 · split at h <;> cases h
 · rename_i h0
   split at h
   · cases h
   · injection h with h1 h2
     have := num_le l
     have h3 := Num.parse_short (l.take (Num.scan l))
     rw [List.length_take] at h3
     refine ⟨Num.scan l, by omega, ?_, ?_, ?_, ?_, ?_⟩
     · rw [← h2, List.length_drop]; omega
     · rw [← h1]; show (Num.parse (l.take (Num.scan l))).1.dig.length ≤ _; omega
     all_goals
       subst h1
       rfl
theorem text_take {l r : List UInt8} {v : Val} (h : text l = .ok v r) : v.str.length + 2 + r.length ≤ l.length ∧ v.num.dig = [] ∧ v.keys = [] ∧ v.kids = [] := by
 unfold text at h
 split at h
 · cases h
 · rename_i he
   injection h with h1 h2
   obtain ⟨s1, s2⟩ := Quo.scan_size (l := l) (by simpa using he)
   rw [← h1, ← h2, List.length_drop]
   refine ⟨by show (Quo.scan l).s.length + 2 + _ ≤ _; omega, rfl, rfl, rfl⟩
def CostA (val : List UInt8 → Got Val) : Prop := ∀ (l r : List UInt8) (v : Val), val l = .ok v r → siz 1 v + 7 * r.length ≤ 7 * l.length
theorem siz_flatA {v : Val} (h1 : v.keys = []) (h2 : v.kids = []) : siz 1 v = 1 + 6 * v.str.length + v.num.dig.length := by
 obtain ⟨k, i, n, s, ks, vs⟩ := v
 have h1 : ks = [] := h1
 have h2 : vs = [] := h2
 subst h1 h2
 rw [siz, sizs]
 rfl
theorem made_sizA (obj : Bool) (keys : List (List UInt8)) (kids : List Val) : siz 1 (made obj keys kids) = 1 + klen keys + sizs 1 kids := by
 unfold made
 rw [siz]
 rfl
theorem named_costA {obj : Bool} {keys ks : List (List UInt8)} {l r : List UInt8} (h : named obj keys l = .ok ks r) : klen ks + 7 * r.length ≤ klen keys + 7 * l.length := by
 unfold named at h
 cases obj with
 | false =>
   simp only [Bool.false_eq_true, if_false] at h
   injection h with h1 h2
   rw [h1, h2]
   exact Nat.le_refl _
 | true =>
   simp only [if_true] at h
   cases hf : field keys l with
   | no r e => rw [hf] at h; cases h
   | ok k r' =>
     rw [hf] at h
     injection h with h1 h2
     have := field_take hf
     rw [← h1, klen_snoc, ← h2]
     omega
theorem items_costA {val : List UInt8 → Got Val} (hd : CostA val) : ∀ (n : Nat) (l : List UInt8), l.length = n → ∀ (obj : Bool) (keys : List (List UInt8)) (kids : List Val) (v : Val) (r : List UInt8),
   items val obj keys kids l = .ok v r → siz 1 v + 7 * r.length ≤ 1 + klen keys + sizs 1 kids + 7 * l.length := by
 intro n
 induction n using Nat.strongRecOn with
 | ind n ih =>
   intro l hn obj keys kids v r h
   unfold items at h
   cases hf : named obj keys l with
   | no r e => rw [hf] at h; cases h
   | ok ks l1 =>
     rw [hf] at h
     dsimp only at h
     have hk := named_costA hf
     cases hg : val l1 with
     | no r e => rw [hg] at h; cases h
     | ok x r1 =>
       rw [hg] at h
       dsimp only at h
       have hx := hd _ _ _ hg
       have hs := skip_le r1
       have hs2 := skip_le (skip r1).tail
       rw [List.length_tail] at hs2
       by_cases c1 : (skip r1).head? = some (close obj)
       · rw [if_pos c1] at h
         injection h with h1 h2
         rw [← h1, ← h2, made_sizA, sizs_snoc, List.length_tail]
         omega
       · rw [if_neg c1] at h
         by_cases c2 : (skip r1).head? ≠ some 44
         · rw [if_pos c2] at h
           unfold here at h
           split at h <;> cases h
         · rw [if_neg c2] at h
           split at h
           · rename_i hlt
             have := ih _ (by omega) _ rfl obj ks _ _ _ h
             rw [sizs_snoc] at this
             omega
           · cases h
theorem many_costA {val : List UInt8 → Got Val} (hd : CostA val) {l r : List UInt8} {v : Val} (hl : 0 < l.length) (h : many val l = .ok v r) : siz 1 v + 7 * r.length ≤ 7 * l.length := by
 have hs := skip_le l.tail
 rw [List.length_tail] at hs
 unfold many at h
 split at h
 · injection h with h1 h2
   rw [← h1, ← h2, made_sizA, List.length_tail]
   unfold klen
   simp only [List.map_nil, List.sum_nil, sizs]
   omega
 · have := items_costA hd _ _ rfl _ _ _ _ _ h
   unfold klen at this
   simp only [List.map_nil, List.sum_nil, sizs] at this
   omega
theorem value_costA : ∀ k : Nat, CostA (value k)
 | 0, l, r, v, h => by
   unfold value at h
   split at h
   · cases h
   · split at h <;> cases h
 | k + 1, l, r, v, h => by
   have hw : ∀ (x : Val) (W : List UInt8), x.keys = [] → x.kids = [] → x.str = [] → x.num.dig = [] → 4 ≤ W.length → word x W l = .ok v r → siz 1 v + 7 * r.length ≤ 7 * l.length := fun x W a1 a2 a3 a4 a5 hh => by
     have e1 := (word_left _ [] _ _ _ _ hh).2
     have e2 := word_take _ _ _ _ _ hh
     rw [e1, siz_flatA a1 a2, a3, a4]
     simp only [List.length_nil]
     omega
   unfold value at h
   split at h
   · cases h
   · rename_i c0 hc0
     have hl : 0 < l.length := by
       cases l with
       | nil => cases hc0
       | cons _ _ => simp
     split at h
     · unfold read at h
       split at h
       · cases h
       · split at h
         · obtain ⟨n, n1, n2, n3, n4, n5, n6⟩ := number_take h
           rw [siz_flatA n5 n6, n4]
           simp only [List.length_nil]
           omega
         · split at h
           · exact hw _ _ rfl rfl rfl rfl (by decide) h
           · split at h
             · exact hw _ _ rfl rfl rfl rfl (by decide) h
             · split at h
               · exact hw _ _ rfl rfl rfl rfl (by decide) h
               · split at h
                 · obtain ⟨t1, t2, t3, t4⟩ := text_take h
                   rw [siz_flatA t3 t4, t2]
                   simp only [List.length_nil]
                   omega
                 · exact many_costA (value_costA k) hl h
     · cases h
theorem parse_costA {s r : List UInt8} {v : Val} (h : parse s = .ok v r) : siz 1 v ≤ 7 * s.length := by
 obtain ⟨q, hv, -⟩ := parse_ok h
 have := skip_le s
 have := value_costA 64 _ _ _ hv
 omega
def CostB (val : List UInt8 → Got Val) : Prop := ∀ (l r : List UInt8) (v : Val), val l = .ok v r → siz 30 v + 31 * r.length ≤ 31 * l.length
theorem siz_flatB {v : Val} (h1 : v.keys = []) (h2 : v.kids = []) : siz 30 v = 30 + 6 * v.str.length + v.num.dig.length := by
 obtain ⟨k, i, n, s, ks, vs⟩ := v
 have h1 : ks = [] := h1
 have h2 : vs = [] := h2
 subst h1 h2
 rw [siz, sizs]
 rfl
theorem made_sizB (obj : Bool) (keys : List (List UInt8)) (kids : List Val) : siz 30 (made obj keys kids) = 30 + klen keys + sizs 30 kids := by
 unfold made
 rw [siz]
 rfl
theorem named_costB {obj : Bool} {keys ks : List (List UInt8)} {l r : List UInt8} (h : named obj keys l = .ok ks r) : klen ks + 31 * r.length ≤ klen keys + 31 * l.length := by
 unfold named at h
 cases obj with
 | false =>
   simp only [Bool.false_eq_true, if_false] at h
   injection h with h1 h2
   rw [h1, h2]
   exact Nat.le_refl _
 | true =>
   simp only [if_true] at h
   cases hf : field keys l with
   | no r e => rw [hf] at h; cases h
   | ok k r' =>
     rw [hf] at h
     injection h with h1 h2
     have := field_take hf
     rw [← h1, klen_snoc, ← h2]
     omega
theorem items_costB {val : List UInt8 → Got Val} (hd : CostB val) : ∀ (n : Nat) (l : List UInt8), l.length = n → ∀ (obj : Bool) (keys : List (List UInt8)) (kids : List Val) (v : Val) (r : List UInt8),
   items val obj keys kids l = .ok v r → siz 30 v + 31 * r.length ≤ 30 + klen keys + sizs 30 kids + 31 * l.length := by
 intro n
 induction n using Nat.strongRecOn with
 | ind n ih =>
   intro l hn obj keys kids v r h
   unfold items at h
   cases hf : named obj keys l with
   | no r e => rw [hf] at h; cases h
   | ok ks l1 =>
     rw [hf] at h
     dsimp only at h
     have hk := named_costB hf
     cases hg : val l1 with
     | no r e => rw [hg] at h; cases h
     | ok x r1 =>
       rw [hg] at h
       dsimp only at h
       have hx := hd _ _ _ hg
       have hs := skip_le r1
       have hs2 := skip_le (skip r1).tail
       rw [List.length_tail] at hs2
       by_cases c1 : (skip r1).head? = some (close obj)
       · rw [if_pos c1] at h
         injection h with h1 h2
         rw [← h1, ← h2, made_sizB, sizs_snoc, List.length_tail]
         omega
       · rw [if_neg c1] at h
         by_cases c2 : (skip r1).head? ≠ some 44
         · rw [if_pos c2] at h
           unfold here at h
           split at h <;> cases h
         · rw [if_neg c2] at h
           split at h
           · rename_i hlt
             have := ih _ (by omega) _ rfl obj ks _ _ _ h
             rw [sizs_snoc] at this
             omega
           · cases h
theorem many_costB {val : List UInt8 → Got Val} (hd : CostB val) {l r : List UInt8} {v : Val} (hl : 0 < l.length) (h : many val l = .ok v r) : siz 30 v + 31 * r.length ≤ 31 * l.length := by
 have hs := skip_le l.tail
 rw [List.length_tail] at hs
 unfold many at h
 split at h
 · injection h with h1 h2
   rw [← h1, ← h2, made_sizB, List.length_tail]
   unfold klen
   simp only [List.map_nil, List.sum_nil, sizs]
   omega
 · have := items_costB hd _ _ rfl _ _ _ _ _ h
   unfold klen at this
   simp only [List.map_nil, List.sum_nil, sizs] at this
   omega
theorem value_costB : ∀ k : Nat, CostB (value k)
 | 0, l, r, v, h => by
   unfold value at h
   split at h
   · cases h
   · split at h <;> cases h
 | k + 1, l, r, v, h => by
   have hw : ∀ (x : Val) (W : List UInt8), x.keys = [] → x.kids = [] → x.str = [] → x.num.dig = [] → 4 ≤ W.length → word x W l = .ok v r → siz 30 v + 31 * r.length ≤ 31 * l.length := fun x W a1 a2 a3 a4 a5 hh => by
     have e1 := (word_left _ [] _ _ _ _ hh).2
     have e2 := word_take _ _ _ _ _ hh
     rw [e1, siz_flatB a1 a2, a3, a4]
     simp only [List.length_nil]
     omega
   unfold value at h
   split at h
   · cases h
   · rename_i c0 hc0
     have hl : 0 < l.length := by
       cases l with
       | nil => cases hc0
       | cons _ _ => simp
     split at h
     · unfold read at h
       split at h
       · cases h
       · split at h
         · obtain ⟨n, n1, n2, n3, n4, n5, n6⟩ := number_take h
           rw [siz_flatB n5 n6, n4]
           simp only [List.length_nil]
           omega
         · split at h
           · exact hw _ _ rfl rfl rfl rfl (by decide) h
           · split at h
             · exact hw _ _ rfl rfl rfl rfl (by decide) h
             · split at h
               · exact hw _ _ rfl rfl rfl rfl (by decide) h
               · split at h
                 · obtain ⟨t1, t2, t3, t4⟩ := text_take h
                   rw [siz_flatB t3 t4, t2]
                   simp only [List.length_nil]
                   omega
                 · exact many_costB (value_costB k) hl h
     · cases h
theorem parse_costB {s r : List UInt8} {v : Val} (h : parse s = .ok v r) : siz 30 v ≤ 31 * s.length := by
 obtain ⟨q, hv, -⟩ := parse_ok h
 have := skip_le s
 have := value_costB 64 _ _ _ hv
 omega
mutual
theorem count_siz : ∀ v : Val, count v ≤ siz 1 v
 | ⟨k, i, n, s, ks, vs⟩ => by
   have h1 := counts_sizs vs
   have h2 : ks.length ≤ klen ks := by
     unfold klen
     induction ks with
     | nil => simp
     | cons x r ih => simp only [List.length_cons, List.map_cons, List.sum_cons]; omega
   rw [count, siz]
   omega
theorem counts_sizs : ∀ vs : List Val, counts vs ≤ sizs 1 vs
 | [] => Nat.zero_le _
 | v :: r => by
   have h1 := count_siz v
   have h2 := counts_sizs r
   rw [counts, sizs]
   omega
end
theorem klen_mem {ks : List (List UInt8)} {x : List UInt8} (h : x ∈ ks) : 6 * x.length ≤ klen ks := by
 unfold klen
 induction ks with
 | nil => cases h
 | cons y r ih =>
   simp only [List.map_cons, List.sum_cons]
   rcases List.mem_cons.1 h with rfl | h
   · omega
   · have := ih h
     omega
mutual
theorem fine_siz : ∀ (v : Val) (d : Nat), siz 1 v ≤ 12000 → Whole v → d + deep v ≤ 70 → Fine d v
 | ⟨k, i, n, s, ks, vs⟩, d, hs, hw, hd => by
   rw [Whole] at hw
   obtain ⟨ho, hws⟩ := hw
   rw [siz] at hs
   have hr : n.dig.length ≤ 1000 := by
     have hn : Num.Right n := ho.2.2.2.2.2.2.2.1
     unfold Num.Right at hn
     split at hn
     · rename_i e
       rw [e]
       simp
     · exact hn.1
   rw [Fine]
   refine ⟨by omega, by omega, by omega, fun x hx => ?_, ?_⟩
   · have := klen_mem hx
     omega
   · by_cases h56 : k = 5 ∨ k = 6
     · rw [deep, if_pos h56] at hd
       exact fines_siz vs (d + 1) (by omega) hws (by omega)
     · have hk : vs = [] := ho.2.2.2.2.2.1 (by
         have h1 : (1 : Int) ≤ k := ho.1
         have h2 : k ≤ 6 := ho.2.1
         show k < 5
         omega)
       rw [hk, Fines]
       trivial
theorem fines_siz : ∀ (vs : List Val) (d : Nat), sizs 1 vs ≤ 12000 → Wholes vs → d + deeps vs ≤ 70 → Fines d vs
 | [], d, _, _, _ => by rw [Fines]; trivial
 | v :: r, d, hs, hw, hd => by
   rw [sizs] at hs
   rw [Wholes] at hw
   rw [deeps] at hd
   rw [Fines]
   exact ⟨fine_siz v d (by omega) hw.1 (by omega), fines_siz r d (by omega) hw.2 (by omega)⟩
end
theorem parse_mild {s r : List UInt8} {v : Val} (hs : s.length ≤ 1500) (h : parse s = .ok v r) : Tre.Right v ∧ Mild v ∧ 5 * count v ≤ 100000 ∧ (Jenc.prt false 0 v).length < 50000 ∧ (Jenc.prt false 0 (Tre.sort v)).length < 50000 := by
 have hg := parse_good s
 rw [h] at hg
 have hr : Tre.Right v := hg.2.2
 have hA := parse_costA h
 have hB := parse_costB h
 have hc := count_siz v
 have h1 := Jenc.narrow_len v 0 hr.2
 have h2 := Jenc.narrow_len (Tre.sort v) 0 (Tre.sort_whole v hr.2)
 rw [Jenc.siz_sort 30 v hr.2] at h2
 exact ⟨hr, ⟨1, fine_siz v 1 (by omega) hr.2 (by have := hr.1; omega)⟩, by omega, by omega, by omega⟩
end Go.Proofs.YtlfbnfphocpgeaaGreatDoor.Jdec
namespace Go.Proofs.YtlfbnfphocpgeaaGreatDoor.Quo
open Go.RowKit Kit Txt Utf
def hexI (c : UInt8) : Int := match hexV c with
 | some d => d
 | none => -1
theorem hexI_cases (c : UInt8) : (48 ≤ c.toNat ∧ c.toNat ≤ 57 ∧ hexI c = (c.toNat : Int) - 48) ∨ (97 ≤ c.toNat ∧ c.toNat ≤ 102 ∧ hexI c = (c.toNat : Int) - 97 + 10) ∨ (65 ≤ c.toNat ∧ c.toNat ≤ 70 ∧ hexI c = (c.toNat : Int) - 65 + 10) ∨
   (¬ (48 ≤ c.toNat ∧ c.toNat ≤ 57) ∧ ¬ (97 ≤ c.toNat ∧ c.toNat ≤ 102) ∧ ¬ (65 ≤ c.toNat ∧ c.toNat ≤ 70) ∧ hexI c = -1) := by
 unfold hexI hexV
 by_cases h1 : 48 ≤ c.toNat ∧ c.toNat ≤ 57
 · left
   rw [if_pos h1]
   exact ⟨h1.1, h1.2, by dsimp only; omega⟩
 rw [if_neg h1]
 by_cases h2 : 97 ≤ c.toNat ∧ c.toNat ≤ 102
 · right; left
   rw [if_pos h2]
   exact ⟨h2.1, h2.2, by dsimp only; omega⟩
 rw [if_neg h2]
 by_cases h3 : 65 ≤ c.toNat ∧ c.toNat ≤ 70
 · right; right; left
   rw [if_pos h3]
   exact ⟨h3.1, h3.2, by dsimp only; omega⟩
 rw [if_neg h3]
 exact .inr (.inr (.inr ⟨h1, h2, h3, rfl⟩))
theorem hexI_none {c : UInt8} (h : hexV c = none) : hexI c = -1 := by unfold hexI; rw [h]
theorem hexI_some {c : UInt8} {d : Nat} (h : hexV c = some d) : hexI c = d ∧ d ≤ 15 := by
 have := hexI_cases c
 have hlt := c.toNat_lt
 have e : hexI c = d := by unfold hexI; rw [h]
 exact ⟨e, by omega⟩
set_option maxRecDepth 100000 in
set_option maxHeartbeats 1000000 in
theorem hex_any {w : World} (c : UInt8) : Calls Tryz.prog 152 #[.int .u8 (c.toNat : Int)] w fun e w' => e = .returned (.int .i64 (hexI c)) ∧ w' = w := by
 have hlt : c.toNat < 256 := c.toNat_lt
 have hc := hexI_cases c
 generalize c.toNat = x at *
 have w1 : 48 ≤ x → IntKind.u8.wrap ((x : Int) - 48) = (x : Int) - 48 := fun h => by simp only [IntKind.wrap, IntKind.signed, IntKind.bits]; simp; omega
 have w2 : 97 ≤ x → IntKind.u8.wrap ((x : Int) - 97) = (x : Int) - 97 := fun h => by simp only [IntKind.wrap, IntKind.signed, IntKind.bits]; simp; omega
 have w3 : 65 ≤ x → IntKind.u8.wrap ((x : Int) - 65) = (x : Int) - 65 := fun h => by simp only [IntKind.wrap, IntKind.signed, IntKind.bits]; simp; omega
 rcases hc with ⟨h1, h2, h3⟩ | ⟨h1, h2, h3⟩ | ⟨h1, h2, h3⟩ | ⟨h1, h2, h3, h4⟩
 · rw [h3]
   have w1 := w1 h1
   have d1 : (48 : Int) ≤ (x : Int) := by omega
   have d2 : (x : Int) ≤ 57 := by omega
   clear h3
   go_enter Tryz.func152, Tryz.ntmps152
   go_wp2_with fail
   go_ret
   simp
 · rw [h3]
   have w2 := w2 h1
   have d1 : (48 : Int) ≤ (x : Int) := by omega
   have d2 : decide ((x : Int) ≤ 57) = false := by simp; omega
   have d3 : (97 : Int) ≤ (x : Int) := by omega
   have d4 : (x : Int) ≤ 102 := by omega
   clear h3
   go_enter Tryz.func152, Tryz.ntmps152
   go_wp2_with fail
   go_ret
   simp
 · rw [h3]
   have w3 := w3 h1
   have d1 : (48 : Int) ≤ (x : Int) := by omega
   have d2 : decide ((x : Int) ≤ 57) = false := by simp; omega
   have d3 : decide ((97 : Int) ≤ (x : Int)) = false := by simp; omega
   have d4 : (65 : Int) ≤ (x : Int) := by omega
   have d5 : (x : Int) ≤ 70 := by omega
   clear h3
   go_enter Tryz.func152, Tryz.ntmps152
   go_wp2_with fail
   go_ret
   simp
 · rw [h4]
   have q1 : decide ((48 : Int) ≤ (x : Int)) = false ∨ (decide ((48 : Int) ≤ (x : Int)) = true ∧ decide ((x : Int) ≤ 57) = false) := by simp; omega
   have q2 : decide ((97 : Int) ≤ (x : Int)) = false ∨ (decide ((97 : Int) ≤ (x : Int)) = true ∧ decide ((x : Int) ≤ 102) = false) := by simp; omega
   have q3 : decide ((65 : Int) ≤ (x : Int)) = false ∨ (decide ((65 : Int) ≤ (x : Int)) = true ∧ decide ((x : Int) ≤ 70) = false) := by simp; omega
   clear h4 w1 w2 w3 h1 h2 h3
   rcases q1 with q1 | ⟨q1, q1'⟩ <;> rcases q2 with q2 | ⟨q2, q2'⟩ <;> rcases q3 with q3 | ⟨q3, q3'⟩
   all_goals
     go_enter Tryz.func152, Tryz.ntmps152
     go_wp2_with fail
     go_ret
     simp
set_option maxRecDepth 100000 in
set_option maxHeartbeats 1000000 in
theorem digit_any {w : World} {n : Nat} (hn : n < 16) : Calls Tryz.prog 105 #[.int .i64 n] w fun e w' => e = .returned (.string (txt [hexD n])) ∧ Below w.heap.size w w' := by
 by_cases h : n < 10
 · have h' : (n : Int) < 10 := by omega
   have c0 := fun wx => one_text wx (48 + (n : Int)) (48 + n) (by omega) (by omega)
   have e : hexD n = UInt8.ofNat (48 + n) := by unfold hexD; rw [if_pos h]
   rw [← e] at c0
   have b0 : Below w.heap.size w (w.alloc (.cells #[.int .u8 (48 + (n : Int))] 5)) := (Below.refl _ w).alloc (Nat.le_refl _) _
   clear e
   go_enter Tryz.func105, Tryz.ntmps105
   go_wp2_with fail
   go_ret
   exact ⟨rfl, b0⟩
 · have h' : decide ((n : Int) < 10) = false := by simp; omega
   have c0 := fun wx => one_text wx (97 + (n : Int) - 10) (97 + n - 10) (by omega) (by omega)
   have e : hexD n = UInt8.ofNat (97 + n - 10) := by unfold hexD; rw [if_neg h]
   rw [← e] at c0
   have b0 : Below w.heap.size w (w.alloc (.cells #[.int .u8 (97 + (n : Int) - 10)] 5)) := (Below.refl _ w).alloc (Nat.le_refl _) _
   have w1 : IntKind.u8.wrap (97 + (n : Int) - 10) = 97 + (n : Int) - 10 := by simp only [IntKind.wrap, IntKind.signed, IntKind.bits]; simp; omega
   clear e
   go_enter Tryz.func105, Tryz.ntmps105
   go_wp2_with fail
   go_ret
   exact ⟨rfl, b0⟩
def shortT (c : UInt8) : List UInt8 := match shortB c with
 | some x => [x]
 | none => []
set_option maxRecDepth 100000 in
set_option maxHeartbeats 2000000 in
theorem short_any {w : World} (c : UInt8) : Calls Tryz.prog 104 #[.int .u8 (c.toNat : Int)] w fun e w' => e = .returned (.string (txt (shortT c))) ∧ w' = w := by
 have ne : ∀ n : UInt8, c ≠ n → ((c.toNat : Int) == (n.toNat : Int)) = false := fun n h => by
   simp
   intro e
   exact h (UInt8.toNat_inj.1 (by omega))
 by_cases h1 : c = 34
 · subst h1
   go_enter Tryz.func104, Tryz.ntmps104
   go_wp2_with fail
   go_ret
   exact ⟨rfl, rfl⟩
 by_cases h2 : c = 92
 · subst h2
   go_enter Tryz.func104, Tryz.ntmps104
   go_wp2_with fail
   go_ret
   exact ⟨rfl, rfl⟩
 by_cases h3 : c = 8
 · subst h3
   go_enter Tryz.func104, Tryz.ntmps104
   go_wp2_with fail
   go_ret
   exact ⟨rfl, rfl⟩
 by_cases h4 : c = 12
 · subst h4
   go_enter Tryz.func104, Tryz.ntmps104
   go_wp2_with fail
   go_ret
   exact ⟨rfl, rfl⟩
 by_cases h5 : c = 10
 · subst h5
   go_enter Tryz.func104, Tryz.ntmps104
   go_wp2_with fail
   go_ret
   exact ⟨rfl, rfl⟩
 by_cases h6 : c = 13
 · subst h6
   go_enter Tryz.func104, Tryz.ntmps104
   go_wp2_with fail
   go_ret
   exact ⟨rfl, rfl⟩
 by_cases h7 : c = 9
 · subst h7
   go_enter Tryz.func104, Tryz.ntmps104
   go_wp2_with fail
   go_ret
   exact ⟨rfl, rfl⟩
 have hT : shortT c = [] := by
   unfold shortT shortB
   rw [if_neg h1, if_neg h2, if_neg h3, if_neg h4, if_neg h5, if_neg h6, if_neg h7]
 rw [hT]
 have n1 : ((c.toNat : Int) == 34) = false := ne 34 h1
 have n2 : ((c.toNat : Int) == 92) = false := ne 92 h2
 have n3 : ((c.toNat : Int) == 8) = false := ne 8 h3
 have n4 : ((c.toNat : Int) == 12) = false := ne 12 h4
 have n5 : ((c.toNat : Int) == 10) = false := ne 10 h5
 have n6 : ((c.toNat : Int) == 13) = false := ne 13 h6
 have n7 : ((c.toNat : Int) == 9) = false := ne 9 h7
 generalize c.toNat = x at *
 clear ne hT
 go_enter Tryz.func104, Tryz.ntmps104
 go_wp2_with fail
 go_ret
 exact ⟨rfl, rfl⟩
theorem unitF_nil {k n : Nat} : unitF (k + 1) n [] = (0, 2) := rfl
theorem unitF_none {k n : Nat} {c : UInt8} {r : List UInt8} (h : hexV c = none) : unitF (k + 1) n (c :: r) = (0, 3) := by unfold unitF; rw [h]
theorem unitF_some {k n d : Nat} {c : UInt8} {r : List UInt8} (h : hexV c = some d) : unitF (k + 1) n (c :: r) = unitF k (n * 16 + d) r := by rw [unitF, h]
set_option maxRecDepth 100000 in
set_option maxHeartbeats 2000000 in
theorem unit_any {w : World} {l : List UInt8} {i : Nat} (_hl : l.length < 1000000) (hi : i < 2000000) :
   Calls Tryz.prog 122 #[.string (txt l), .int .i64 i] w fun e w' => e = .returned (.tuple #[.int .i64 (unit (l.drop i)).1, .int .i64 (unit (l.drop i)).2]) ∧ w' = w := by
 have hs := txt_size l
 go_enter Tryz.func122, Tryz.ntmps122
 go_wp2_with fail
 go_loopw [6, 7] (fun n j wr => ∃ (k v : Nat), k ≤ 4 ∧ j = .int .i64 k ∧ n = .int .i64 v ∧ v < 16 ^ k ∧ unit (l.drop i) = unitF (4 - k) v (l.drop (i + k)) ∧ wr = w) (fun _ j _ => 4 - (intOf j).toNat)
 case atStart => exact ⟨0, 0, by omega, rfl, rfl, by decide, rfl, rfl⟩
 case round =>
   obtain ⟨k, v, hk, rfl, rfl, hv, hu, rfl⟩ := hrel
   have hv4 : v < 65536 := Nat.lt_of_lt_of_le hv (Nat.pow_le_pow_right (n := 16) (by omega) hk)
   by_cases h4 : k < 4
   · have h4' : (k : Int) < 4 := by omega
     have h4'' : decide (k < 4) = true := by simp; omega
     obtain ⟨m, hm⟩ : ∃ m, 4 - k = m + 1 := ⟨3 - k, by omega⟩
     rw [hm] at hu
     obtain ⟨q, hq⟩ : ∃ q, i + k = q := ⟨_, rfl⟩
     have hqi : (i : Int) + (k : Int) = (q : Int) := by omega
     have wq : IntKind.i64.wrap (q : Int) = (q : Int) := by simp only [IntKind.wrap, IntKind.signed, IntKind.bits]; simp; omega
     rw [hq] at hu
     by_cases hlt : q < l.length
     · have hlt' : decide (l.length ≤ q) = false := by simp; omega
       have hix := idx hlt
       have hd : l.drop q = l[q] :: l.drop (q + 1) := List.drop_eq_getElem_cons hlt
       rw [nb_get hlt] at hix
       rw [hd] at hu
       have hx := fun wx => hex_any (w := wx) l[q]
       have hc := hexI_cases l[q]
       cases hh : hexV l[q] with
       | none =>
         rw [unitF_none hh] at hu
         have e := hexI_none hh
         simp only [e] at hx
         generalize (l[q]).toNat = x at *
         have HU := Lib.hid hu
         clear hu hd hc hh e
         go_wp2_with fail
         refine (hx _).mono ?_
         rintro e w1 ⟨rfl, rfl⟩
         go_wp2_with fail
         refine bodyPost_ret (v := .tuple #[.int .i64 0, .int .i64 3]) (by simp [results, Tryz.results122, go_sem]) rfl ⟨by rw [HU.out]; rfl, rfl⟩
       | some d =>
         rw [unitF_some hh] at hu
         obtain ⟨e, hd15⟩ := hexI_some hh
         simp only [e] at hx
         have hv2 : v * 16 + d < 16 ^ (k + 1) := by rw [Nat.pow_succ]; omega
         have hm2 : 4 - (k + 1) = m := by omega
         have hq2 : i + (k + 1) = q + 1 := by omega
         rw [← hm2, ← hq2] at hu
         generalize (l[q]).toNat = x at *
         have HU := Lib.hid hu
         have HV := Lib.hid hv2
         clear hu hd hc hh e hv hv2 hm2 hq2 hm
         go_wp2_with fail
         refine (hx _).mono ?_
         rintro e w1 ⟨rfl, rfl⟩
         go_wp2_with fail
         go_roundw
         case rel => exact ⟨k + 1, v * 16 + d, by omega, by go_num, by go_num, HV.out, HU.out, by first | trivial | rfl⟩
         case measure => simp [intOf]; omega
     · have hlt' : decide (l.length ≤ q) = true := by simp; omega
       have hn : l.drop q = [] := List.drop_eq_nil_of_le (by omega)
       rw [hn, unitF_nil] at hu
       have HU := Lib.hid hu
       clear hu hn
       go_wp2_with fail
       refine bodyPost_ret (v := .tuple #[.int .i64 0, .int .i64 2]) (by simp [results, Tryz.results122, go_sem]) rfl ⟨by rw [HU.out]; rfl, rfl⟩
   · obtain rfl : k = 4 := by omega
     have hu2 : unit (l.drop i) = (v, 0) := hu
     have HU := Lib.hid hu2
     clear hu hu2 hv
     go_wp2_with fail
     refine bodyPost_ret (v := .tuple #[.int .i64 v, .int .i64 0]) (by simp [results, Tryz.results122, go_sem]) rfl ⟨by rw [HU.out]; rfl, rfl⟩
end Go.Proofs.YtlfbnfphocpgeaaGreatDoor.Quo
