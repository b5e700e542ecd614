/- Facts of lists about decimal numbers: the ways of writing one number that the law of layer 6 asks about. Nothing is claimed here. -/
import Derived.Test.YtkhdahfppajdoaaDoorNumVal
namespace Go.Proofs.YtkhdahfppajdoaaDoor.Num

theorem norm_nil (n : Bool) (e : Int) : norm n [] e = (zero, 0) := rfl
theorem drop_digits {n : Nat} (h : 0 < n) (X : List UInt8) : (digits n ++ X).dropWhile z48 = digits n ++ X := dropZ_head (by
  have hh := digits_head n h
  obtain ⟨c, r, e⟩ := List.exists_cons_of_ne_nil (digits_ne n)
  rw [e] at hh ⊢
  simpa using hh)
/-- Noughts behind, and a power that makes up for them. -/
theorem norm_behind (n k : Nat) : norm false ((digits n ++ noughts k).dropWhile z48) (-(k : Int)) = parse (digits n) := by
  rw [parse_digits]
  by_cases h : n = 0
  · subst h
    have e1 : (digits 0 ++ noughts k).dropWhile z48 = [] := by
      have : digits 0 ++ noughts k = noughts (k + 1) ++ [] := by rw [digits_zero]; simp [noughts, List.replicate_succ]
      rw [this, dropZ_noughts]
      rfl
    rw [e1, norm_nil, digits_zero]
    rfl
  · rw [drop_digits (by omega), norm_noughts, dropZ_head (digits_head n (by omega))]
    congr 1
    omega
theorem way_b (n k : Nat) (hn : n < 4294967296) (hk : k ≤ 8) :
    parse ([48, 46] ++ noughts k ++ digits n ++ noughts k ++ [101] ++ digits ((digits n).length + k)) = parse (digits n) := by
  have hl := digits_len n 10 (by omega) (by omega)
  have hp : Parts [48] (noughts k ++ (digits n ++ noughts k)) (some (101, [], digits ((digits n).length + k))) := by
    refine ⟨by simp, by decide, .inl rfl, ?_, ?_⟩
    · intro c hc
      rcases List.mem_append.1 hc with hc | hc
      · exact noughts_dg _ c hc
      · rcases List.mem_append.1 hc with hc | hc
        · exact digits_dg _ c hc
        · exact noughts_dg _ c hc
    · intro m s E e
      injection e with e
      injection e with e1 e2
      injection e2 with e2 e3
      subst e1; subst e2; subst e3
      exact ⟨.inl rfl, .inl rfl, digits_ne _, digits_dg _⟩
  have ht : [48, 46] ++ noughts k ++ digits n ++ noughts k ++ [101] ++ digits ((digits n).length + k) = text false [48] (noughts k ++ (digits n ++ noughts k)) (some (101, [], digits ((digits n).length + k))) := by
    have : noughts k ++ (digits n ++ noughts k) ≠ [] := by simp [digits_ne]
    simp [text, negT, fracT, expT, this]
  rw [ht, parse_text false hp (by
    intro m s E e
    injection e with e
    injection e with e1 e2
    injection e2 with e2 e3
    subst e3
    exact digits_val (by omega))]
  have e1 : [48] ++ (noughts k ++ (digits n ++ noughts k)) = noughts (k + 1) ++ (digits n ++ noughts k) := by simp [noughts, List.replicate_succ]
  rw [e1, dropZ_noughts]
  simp only [expV, valD_digits, List.length_append, noughts_len]
  rw [if_neg (by simp), show ((((digits n).length + k : Nat) : Int) - ((k + ((digits n).length + k) : Nat) : Int)) = -(k : Int) by omega]
  exact norm_behind n k
theorem way_c (n k : Nat) (hk : k ≤ 8) (h : 0 < n ∨ k = 0) : parse (digits n ++ noughts k ++ [69, 45] ++ digits k) = parse (digits n) := by
  have hp : Parts (digits n ++ noughts k) [] (some (69, [45], digits k)) := by
    refine ⟨by simp [digits_ne], ?_, ?_, by simp, ?_⟩
    · intro c hc
      rcases List.mem_append.1 hc with hc | hc
      · exact digits_dg _ c hc
      · exact noughts_dg _ c hc
    · by_cases h0 : n = 0
      · subst h0
        obtain rfl : k = 0 := by omega
        left
        rw [digits_zero]
        rfl
      · right
        have hh := digits_head n (by omega)
        obtain ⟨c, r, e⟩ := List.exists_cons_of_ne_nil (digits_ne n)
        rw [e] at hh ⊢
        simpa using hh
    · intro m s E e
      injection e with e
      injection e with e1 e2
      injection e2 with e2 e3
      subst e1; subst e2; subst e3
      exact ⟨.inr rfl, .inr (.inr rfl), digits_ne _, digits_dg _⟩
  have ht : digits n ++ noughts k ++ [69, 45] ++ digits k = text false (digits n ++ noughts k) [] (some (69, [45], digits k)) := by simp [text, negT, fracT, expT]
  rw [ht, parse_text false hp (by
    intro m s E e
    injection e with e
    injection e with e1 e2
    injection e2 with e2 e3
    subst e3
    exact digits_val (by omega))]
  simp only [expV, valD_digits, List.append_nil, List.length_nil, if_true]
  rw [show (-(k : Int) - ((0 : Nat) : Int)) = -(k : Int) by omega]
  exact norm_behind n k
theorem way_c0 (k : Nat) (E : List UInt8) (h : 0 < k) : parse (digits 0 ++ noughts k ++ [69, 45] ++ E) = (zero, 3) := by
  obtain ⟨j, rfl⟩ : ∃ j, k = j + 1 := ⟨k - 1, by omega⟩
  have e : digits 0 ++ noughts (j + 1) ++ [69, 45] ++ E = 48 :: 48 :: (noughts j ++ [69, 45] ++ E) := by rw [digits_zero]; simp [noughts, List.replicate_succ]
  rw [e]
  generalize noughts j ++ [69, 45] ++ E = X
  have hs : scan (48 :: 48 :: X) = 1 := rfl
  unfold parse
  rw [if_pos (.inr (by rw [hs]; simp))]
theorem way_d (n j : Nat) (h0 : 0 < j) (h1 : j < (digits n).length) (hn : n < 4294967296) :
    parse ((digits n).take j ++ [46] ++ (digits n).drop j ++ [101, 43] ++ digits ((digits n).length - j)) = parse (digits n) := by
  have hl := digits_len n 10 (by omega) (by omega)
  have hn0 : 0 < n := by
    by_cases h : n = 0
    · subst h
      rw [digits_zero] at h1
      simp at h1
      omega
    · omega
  have hF : (digits n).drop j ≠ [] := by
    intro e
    have := congrArg List.length e
    rw [List.length_drop, List.length_nil] at this
    omega
  have hp : Parts ((digits n).take j) ((digits n).drop j) (some (101, [43], digits ((digits n).length - j))) := by
    refine ⟨?_, fun c hc => digits_dg _ c (List.mem_of_mem_take hc), .inr ?_, fun c hc => digits_dg _ c (List.mem_of_mem_drop hc), ?_⟩
    · intro e
      have := congrArg List.length e
      rw [List.length_take, List.length_nil] at this
      omega
    · rw [List.head?_take, if_neg (by omega)]
      exact digits_head n hn0
    · intro m s E e
      injection e with e
      injection e with e1 e2
      injection e2 with e2 e3
      subst e1; subst e2; subst e3
      exact ⟨.inl rfl, .inr (.inl rfl), digits_ne _, digits_dg _⟩
  have ht : (digits n).take j ++ [46] ++ (digits n).drop j ++ [101, 43] ++ digits ((digits n).length - j) = text false ((digits n).take j) ((digits n).drop j) (some (101, [43], digits ((digits n).length - j))) := by
    simp [text, negT, fracT, expT, hF]
  rw [ht, parse_text false hp (by
    intro m s E e
    injection e with e
    injection e with e1 e2
    injection e2 with e2 e3
    subst e3
    exact digits_val (by omega)), List.take_append_drop, parse_digits]
  congr 1
  simp only [expV, valD_digits, List.length_drop]
  rw [if_neg (by simp)]
  omega
end Go.Proofs.YtkhdahfppajdoaaDoor.Num
