/- The contract of num.Compare as it landed. Nothing is claimed here. -/
import Derived.Test.YtkhdahfppajdoaaDoorNumFn
import Derived.Test.YtkhdahfppajdoaaDoorNumCmp
namespace Go.Proofs.YtkhdahfppajdoaaDoor.Num
open Go.RowKit Kit

/-! which of two is the greater one, told by the first digit's place, then digit by digit -/
/-- No nought at the end. -/
def Tight (d : List UInt8) : Prop := d = [] ∨ nb d (d.length - 1) ≠ 48
theorem Tight.tail {c : UInt8} {d : List UInt8} (h : Tight (c :: d)) : Tight d := by
  rcases h with h | h
  · cases h
  · by_cases h0 : d = []
    · exact .inl h0
    · refine .inr ?_
      have hl := List.length_pos_iff.2 h0
      have e := nb_app [c] d (d.length - 1)
      simp only [List.length_cons, List.length_nil, List.cons_append, List.nil_append] at e h
      rw [show d.length + 1 - 1 = 0 + 1 + (d.length - 1) by omega] at h
      rw [← e]
      exact h
theorem tight_pos {d : List UInt8} (h0 : d ≠ []) (hd : ∀ c ∈ d, dg c = true) (ht : Tight d) : 0 < valD d := by
  have hl := ht.resolve_left h0
  have h1 := valD_digit hd 0
  rw [Nat.pow_zero, Nat.div_one, nb_rev (List.length_pos_iff.2 h0), Nat.sub_zero] at h1
  have hlt : d.length - 1 < d.length := by have := List.length_pos_iff.2 h0; omega
  have := (digAt_dg hlt).2 (hd _ (List.getElem_mem hlt))
  unfold DigAt at this
  omega
theorem valD_cons (c : UInt8) (d : List UInt8) : valD (c :: d) = (c.toNat - 48) * 10 ^ d.length + valD d := by
  have h := valR_app d.reverse [c]
  rw [valD_eq, List.reverse_cons, h, List.length_reverse, ← valD_eq]
  show _ + 10 ^ d.length * ((c.toNat - 48) + 10 * 0) = _
  rw [Nat.mul_zero, Nat.add_zero, Nat.mul_comm]
  omega
theorem cmp_texts : ∀ (a b : List UInt8) (N : Nat), (∀ c ∈ a, dg c = true) → (∀ c ∈ b, dg c = true) → Tight a → Tight b → a.length ≤ N → b.length ≤ N →
    Lib.compareBytes a b = cmpN (valD a * 10 ^ (N - a.length)) (valD b * 10 ^ (N - b.length))
  | [], [], N, _, _, _, _, _, _ => by simp [Lib.compareBytes, valD, cmpN]
  | [], y :: b, N, _, hb, _, tb, _, _ => by
    have := tight_pos (by simp) hb tb
    have hp : 0 < valD (y :: b) * 10 ^ (N - (y :: b).length) := Nat.mul_pos this (Nat.pow_pos (by omega))
    unfold cmpN
    rw [show valD [] = 0 from rfl, Nat.zero_mul, if_pos hp]
    rfl
  | x :: a, [], N, ha, _, ta, _, _, _ => by
    have := tight_pos (by simp) ha ta
    have hp : 0 < valD (x :: a) * 10 ^ (N - (x :: a).length) := Nat.mul_pos this (Nat.pow_pos (by omega))
    unfold cmpN
    rw [show valD [] = 0 from rfl, Nat.zero_mul, if_neg (by omega), if_pos hp]
    rfl
  | x :: a, y :: b, N, ha, hb, ta, tb, la, lb => by
    have hx := dg_num (ha x (by simp))
    have hy := dg_num (hb y (by simp))
    have ha' : ∀ c ∈ a, dg c = true := fun c h => ha c (by simp [h])
    have hb' : ∀ c ∈ b, dg c = true := fun c h => hb c (by simp [h])
    simp only [List.length_cons] at la lb
    obtain ⟨M, rfl⟩ : ∃ M, N = M + 1 := ⟨N - 1, by omega⟩
    have ih := cmp_texts a b M ha' hb' ta.tail tb.tail (by omega) (by omega)
    have va : valD (x :: a) * 10 ^ (M + 1 - (x :: a).length) = (x.toNat - 48) * 10 ^ M + valD a * 10 ^ (M - a.length) := by
      rw [valD_cons, List.length_cons, Nat.add_mul, Nat.mul_assoc, ← Nat.pow_add, show a.length + (M + 1 - (a.length + 1)) = M by omega, show M + 1 - (a.length + 1) = M - a.length by omega]
    have vb : valD (y :: b) * 10 ^ (M + 1 - (y :: b).length) = (y.toNat - 48) * 10 ^ M + valD b * 10 ^ (M - b.length) := by
      rw [valD_cons, List.length_cons, Nat.add_mul, Nat.mul_assoc, ← Nat.pow_add, show b.length + (M + 1 - (b.length + 1)) = M by omega, show M + 1 - (b.length + 1) = M - b.length by omega]
    have ba : valD a * 10 ^ (M - a.length) < 10 ^ M := by
      refine Nat.lt_of_lt_of_le (Nat.mul_lt_mul_of_pos_right (valD_lt ha') (Nat.pow_pos (by omega))) ?_
      rw [← Nat.pow_add, show a.length + (M - a.length) = M by omega]
      exact Nat.le_refl _
    have bb : valD b * 10 ^ (M - b.length) < 10 ^ M := by
      refine Nat.lt_of_lt_of_le (Nat.mul_lt_mul_of_pos_right (valD_lt hb') (Nat.pow_pos (by omega))) ?_
      rw [← Nat.pow_add, show b.length + (M - b.length) = M by omega]
      exact Nat.le_refl _
    rw [va, vb]
    generalize valD a * 10 ^ (M - a.length) = A at *
    generalize valD b * 10 ^ (M - b.length) = B at *
    show (if x < y then -1 else if y < x then 1 else Lib.compareBytes a b) = _
    have hlt : x < y ↔ x.toNat < y.toNat := UInt8.lt_iff_toNat_lt
    have hgt : y < x ↔ y.toNat < x.toNat := UInt8.lt_iff_toNat_lt
    by_cases c1 : x.toNat < y.toNat
    · rw [if_pos (hlt.2 c1)]
      have h1 : (x.toNat - 48 + 1) * 10 ^ M ≤ (y.toNat - 48) * 10 ^ M := Nat.mul_le_mul_right _ (by omega)
      rw [Nat.add_mul, Nat.one_mul] at h1
      unfold cmpN
      rw [if_pos (by omega)]
    · rw [if_neg (fun e => c1 (hlt.1 e))]
      by_cases c2 : y.toNat < x.toNat
      · rw [if_pos (hgt.2 c2)]
        have h1 : (y.toNat - 48 + 1) * 10 ^ M ≤ (x.toNat - 48) * 10 ^ M := Nat.mul_le_mul_right _ (by omega)
        rw [Nat.add_mul, Nat.one_mul] at h1
        unfold cmpN
        rw [if_neg (by omega), if_pos (by omega)]
      · rw [if_neg (fun e => c2 (hgt.1 e)), ih]
        have : x.toNat = y.toNat := by omega
        rw [this]
        unfold cmpN
        generalize (y.toNat - 48) * 10 ^ M = K
        (repeat' split) <;> omega

theorem right_tight {n : Dec} (h : Right n) : Tight n.dig := by
  by_cases h0 : n.dig = []
  · exact .inl h0
  · exact .inr (right_head h h0).2.2.1
/-- Of two that are right and not 0: first the places of their first digits, then their digits. -/
theorem sizes_cmp {a b : Dec} (ha : Right a) (hb : Right b) (hz : (a.dig = [] ↔ b.dig = [])) :
    cmpN (V a) (V b) = if Lib.compareInt ((a.dig.length : Int) + a.exp) ((b.dig.length : Int) + b.exp) ≠ 0 then Lib.compareInt ((a.dig.length : Int) + a.exp) ((b.dig.length : Int) + b.exp) else Lib.compareBytes a.dig b.dig := by
  obtain ⟨a1, a2, a3, a4⟩ := right_exp ha
  obtain ⟨b1, b2, b3, b4⟩ := right_exp hb
  by_cases h0 : a.dig = []
  · have h1 := hz.1 h0
    have ea : a.exp = 0 := by unfold Right at ha; rw [if_pos h0] at ha; exact ha.2
    have eb : b.exp = 0 := by unfold Right at hb; rw [if_pos h1] at hb; exact hb.2
    have va : V a = 0 := by unfold V; rw [h0]; simp [valD]
    have vb : V b = 0 := by unfold V; rw [h1]; simp [valD]
    rw [va, vb, h0, h1, ea, eb]
    decide
  · have h1 : b.dig ≠ [] := fun e => h0 (hz.2 e)
    obtain ⟨_, ha0, _⟩ := right_head ha h0
    obtain ⟨_, hb0, _⟩ := right_head hb h1
    have la := valD_ge h0 a4 ha0
    have lb := valD_ge h1 b4 hb0
    have ua := valD_lt a4
    have ub := valD_lt b4
    have pa := List.length_pos_iff.2 h0
    have pb := List.length_pos_iff.2 h1
    obtain ⟨x, hx⟩ : ∃ x, (a.exp + 10000).toNat = x := ⟨_, rfl⟩
    obtain ⟨y, hy⟩ : ∃ y, (b.exp + 10000).toNat = y := ⟨_, rfl⟩
    have Va : V a = valD a.dig * 10 ^ x := by unfold V; rw [hx]
    have Vb : V b = valD b.dig * 10 ^ y := by unfold V; rw [hy]
    have l1 : 10 ^ (a.dig.length - 1 + x) ≤ V a := by rw [Va, Nat.pow_add]; exact Nat.mul_le_mul_right _ la
    have l2 : 10 ^ (b.dig.length - 1 + y) ≤ V b := by rw [Vb, Nat.pow_add]; exact Nat.mul_le_mul_right _ lb
    have u1 : V a < 10 ^ (a.dig.length + x) := by rw [Va, Nat.pow_add]; exact Nat.mul_lt_mul_of_pos_right ua (Nat.pow_pos (by omega))
    have u2 : V b < 10 ^ (b.dig.length + y) := by rw [Vb, Nat.pow_add]; exact Nat.mul_lt_mul_of_pos_right ub (Nat.pow_pos (by omega))
    unfold Lib.compareInt
    by_cases c1 : (a.dig.length : Int) + a.exp < (b.dig.length : Int) + b.exp
    · have h := Nat.pow_le_pow_right (n := 10) (by omega) (show a.dig.length + x ≤ b.dig.length - 1 + y by omega)
      rw [if_pos c1, if_pos (by decide)]
      unfold cmpN
      rw [if_pos (by omega)]
    · rw [if_neg c1]
      by_cases c2 : (b.dig.length : Int) + b.exp < (a.dig.length : Int) + a.exp
      · have h := Nat.pow_le_pow_right (n := 10) (by omega) (show b.dig.length + y ≤ a.dig.length - 1 + x by omega)
        rw [if_pos c2, if_pos (by decide)]
        unfold cmpN
        rw [if_neg (by omega), if_pos (by omega)]
      · rw [if_neg c2, if_neg (by decide)]
        obtain ⟨N, hN⟩ : ∃ N, a.dig.length + b.dig.length = N := ⟨_, rfl⟩
        rw [cmp_texts a.dig b.dig N a4 b4 (right_tight ha) (right_tight hb) (by omega) (by omega)]
        -- both sides, times one and the same power
        obtain ⟨k, hk1, hk2⟩ : ∃ k : Nat, x + N = k + (N - a.dig.length) ∧ y + N = k + (N - b.dig.length) := ⟨x + a.dig.length, by omega, by omega⟩
        have e1 : V a * 10 ^ N = valD a.dig * 10 ^ (N - a.dig.length) * 10 ^ k := by
          rw [Va, Nat.mul_assoc, ← Nat.pow_add, hk1, Nat.add_comm k, Nat.pow_add, Nat.mul_assoc]
        have e2 : V b * 10 ^ N = valD b.dig * 10 ^ (N - b.dig.length) * 10 ^ k := by
          rw [Vb, Nat.mul_assoc, ← Nat.pow_add, hk2, Nat.add_comm k, Nat.pow_add, Nat.mul_assoc]
        have scale : ∀ (p q j : Nat), cmpN (p * 10 ^ j) (q * 10 ^ j) = cmpN p q := by
          intro p q j
          have hp : 0 < 10 ^ j := Nat.pow_pos (by omega)
          unfold cmpN
          simp only [Nat.mul_lt_mul_right hp]
        rw [← scale (V a) (V b) N, e1, e2, scale]

/-! the walks -/
theorem cmp_any (x y : Int) (w : World) : Calls Tryd.prog 36 #[.int .i64 x, .int .i64 y] w fun e w' => e = .returned (.int .i64 (Lib.compareInt x y)) ∧ w' = w := Tryd.cmp_Compare_int x y w
theorem scmp_any (a b : List UInt8) (w : World) : Calls Tryd.prog 59 #[.string (txt a), .string (txt b)] w fun e w' => e = .returned (.int .i64 (Lib.compareBytes a b)) ∧ w' = w := Tryd.strings_Compare (txt a) (txt b) w

def sideN (n : Dec) : Int := if n.neg = true then -1 else if n.dig = [] then 0 else 1
set_option maxRecDepth 100000 in
theorem side_any {w : World} {n : Dec} : Calls Tryd.prog 37 #[numV n] w fun e w' => e = .returned (.int .i64 (sideN n)) ∧ Below w.heap.size w w' := by
  have hS := box_new w (.bool n.neg) (.string (txt n.dig)) (.int .i64 n.exp)
  obtain ⟨ng, l, ex⟩ := n
  simp only [numV] at *
  obtain ⟨x0, x1, x2, b0⟩ := hS
  cases ng with
  | true =>
    go_enter Tryd.func37, Tryd.ntmps37
    go_wp2_with fail
    go_ret
    exact ⟨rfl, b0⟩
  | false =>
    by_cases h : l = []
    · subst h
      have he := toList_txt []
      go_enter Tryd.func37, Tryd.ntmps37
      go_wp2_with fail
      go_ret
      exact ⟨rfl, b0⟩
    · have he1 : (txt l).toList.isEmpty = false := by rw [toList_txt]; simp [h]
      have he2 : ((txt l).toList == []) = false := by rw [toList_txt]; simp [h]
      have hs : sideN ⟨false, l, ex⟩ = 1 := by unfold sideN; rw [if_neg (by simp), if_neg h]
      have HS := Lib.hid hs
      clear hs h
      go_enter Tryd.func37, Tryd.ntmps37
      go_wp2_with fail
      go_ret
      rw [HS.out]
      exact ⟨rfl, b0⟩

def sizesN (a b : Dec) : Int := if Lib.compareInt ((a.dig.length : Int) + a.exp) ((b.dig.length : Int) + b.exp) ≠ 0 then Lib.compareInt ((a.dig.length : Int) + a.exp) ((b.dig.length : Int) + b.exp) else Lib.compareBytes a.dig b.dig
set_option maxRecDepth 100000 in
set_option maxHeartbeats 1000000 in
theorem sizes_any {w : World} {a b : Dec} (ha : a.dig.length ≤ 1000 ∧ -10000 ≤ a.exp ∧ a.exp ≤ 10000) (hb : b.dig.length ≤ 1000 ∧ -10000 ≤ b.exp ∧ b.exp ≤ 10000) :
    Calls Tryd.prog 38 #[numV a, numV b] w fun e w' => e = .returned (.int .i64 (sizesN a b)) ∧ Below w.heap.size w w' := by
  have bA := new_of (World.alloc_heap_new w (.cells #[.bool a.neg, .string (txt a.dig), .int .i64 a.exp] 24)) (.cells #[.bool b.neg, .string (txt b.dig), .int .i64 b.exp] 24)
  have bB := World.alloc_heap_new (w.alloc (.cells #[.bool a.neg, .string (txt a.dig), .int .i64 a.exp] 24)) (.cells #[.bool b.neg, .string (txt b.dig), .int .i64 b.exp] 24)
  rw [World.size_alloc] at bB
  have hB0 : Below w.heap.size w ((w.alloc (.cells #[.bool a.neg, .string (txt a.dig), .int .i64 a.exp] 24)).alloc (.cells #[.bool b.neg, .string (txt b.dig), .int .i64 b.exp] 24)) := ((Below.refl _ w).alloc (Nat.le_refl _) _).alloc (by simp) _
  have x0 := cell_of bA 1
  have x1 := cell_of bA 2
  have y0 := cell_of bB 1
  have y1 := cell_of bB 2
  have sa := txt_size a.dig
  have sb := txt_size b.dig
  have hc := fun wx => cmp_any ((a.dig.length : Int) + a.exp) ((b.dig.length : Int) + b.exp) wx
  have ht := fun wx => scmp_any a.dig b.dig wx
  have w1 : IntKind.i64.wrap ((a.dig.length : Int) + a.exp) = (a.dig.length : Int) + a.exp := IntWalk.i64_in _ (by omega)
  have w2 : IntKind.i64.wrap ((b.dig.length : Int) + b.exp) = (b.dig.length : Int) + b.exp := IntWalk.i64_in _ (by omega)
  have hr : sizesN a b = if Lib.compareInt ((a.dig.length : Int) + a.exp) ((b.dig.length : Int) + b.exp) ≠ 0 then Lib.compareInt ((a.dig.length : Int) + a.exp) ((b.dig.length : Int) + b.exp) else Lib.compareBytes a.dig b.dig := rfl
  obtain ⟨na, da, ea⟩ := a
  obtain ⟨nb', db, eb⟩ := b
  simp only [numV] at *
  generalize hci : Lib.compareInt ((da.length : Int) + ea) ((db.length : Int) + eb) = ci at *
  have HCI := Lib.hid hci
  by_cases h0 : ci = 0
  · rw [if_neg (by simp [h0])] at hr
    have HR := Lib.hid hr
    subst h0
    clear hr hci bA bB ha hb
    go_enter Tryd.func38, Tryd.ntmps38
    go_wp2_with fail
    refine (hc _).mono ?_
    rintro e w3 ⟨rfl, rfl⟩
    go_wp2_with fail
    refine (ht _).mono ?_
    rintro e w3 ⟨rfl, rfl⟩
    go_wp2_with fail
    go_ret
    rw [HR.out]
    exact ⟨rfl, hB0⟩
  · rw [if_pos h0] at hr
    have h0' : (ci != 0) = true := by simp [h0]
    have HR := Lib.hid hr
    clear hr hci bA bB h0 ha hb
    go_enter Tryd.func38, Tryd.ntmps38
    go_wp2_with fail
    refine (hc _).mono ?_
    rintro e w3 ⟨rfl, rfl⟩
    go_wp2_with fail
    go_ret
    rw [HR.out]
    exact ⟨rfl, hB0⟩

theorem cmp_comm (a b : Nat) : cmpN b a = -cmpN a b := by
  unfold cmpN
  (repeat' split) <;> omega
/-- What the program tells. -/
theorem compare_prog {a b : Dec} (ha : Right a) (hb : Right b) :
    compare a b = if Lib.compareInt (sideN a) (sideN b) ≠ 0 then Lib.compareInt (sideN a) (sideN b) else if a.neg = true then sizesN b a else sizesN a b := by
  have na := fun e => neg_dig ha e
  have nb' := fun e => neg_dig hb e
  have key : ∀ x y : Dec, Right x → Right y → (x.dig = [] ↔ y.dig = []) → sizesN x y = cmpN (V x) (V y) := fun x y hx hy hz => (sizes_cmp hx hy hz).symm
  have zero : ∀ x : Dec, x.dig = [] → V x = 0 := fun x h => by unfold V; rw [h]; simp [valD]
  have pos : ∀ x : Dec, Right x → x.dig ≠ [] → 0 < V x := fun x hx h => neg_pos hx h
  unfold compare
  rw [if_neg (by simp [ha, hb])]
  unfold sideN
  cases h1 : a.neg <;> cases h2 : b.neg
  · by_cases z1 : a.dig = [] <;> by_cases z2 : b.dig = []
    · rw [key a b ha hb (by simp [z1, z2])]
      simp [z1, z2, Lib.compareInt]
    · have := pos b hb z2
      simp [z1, z2, Lib.compareInt, zero a z1, cmpN, this]
    · have := pos a ha z1
      simp [z1, z2, Lib.compareInt, zero b z2, cmpN, this]
    · rw [key a b ha hb (by simp [z1, z2])]
      simp [z1, z2, Lib.compareInt]
  · have := nb' h2
    by_cases z1 : a.dig = [] <;> simp [z1, Lib.compareInt]
  · have := na h1
    by_cases z2 : b.dig = [] <;> simp [z2, Lib.compareInt]
  · have z1 := na h1
    have z2 := nb' h2
    rw [key b a hb ha (by simp [z1, z2])]
    simp [Lib.compareInt]

set_option maxRecDepth 100000 in
set_option maxHeartbeats 2000000 in
theorem ncompare_any {w : World} (_ho : Ok w) {a b : Dec} (hla : a.dig.length < 100000) (hlb : b.dig.length < 100000) :
    Calls Tryd.prog 17 #[numV a, numV b] w fun e w' => e = .returned (.int .i64 (compare a b)) ∧ Below w.heap.size w w' := by
  have bA := new_of (World.alloc_heap_new w (.cells #[.bool a.neg, .string (txt a.dig), .int .i64 a.exp] 24)) (.cells #[.bool b.neg, .string (txt b.dig), .int .i64 b.exp] 24)
  have bB := World.alloc_heap_new (w.alloc (.cells #[.bool a.neg, .string (txt a.dig), .int .i64 a.exp] 24)) (.cells #[.bool b.neg, .string (txt b.dig), .int .i64 b.exp] 24)
  rw [World.size_alloc] at bB
  have hB0 : Below w.heap.size w ((w.alloc (.cells #[.bool a.neg, .string (txt a.dig), .int .i64 a.exp] 24)).alloc (.cells #[.bool b.neg, .string (txt b.dig), .int .i64 b.exp] 24)) := ((Below.refl _ w).alloc (Nat.le_refl _) _).alloc (by simp) _
  have hS := And.intro (cell_of bA 0) (And.intro (cell_of bA 1) (And.intro (cell_of bA 2) (And.intro (cell_of bB 0) (And.intro (cell_of bB 1) (And.intro (cell_of bB 2) hB0)))))
  have hra := fun wx => nright_all (w := wx) (n := a) (by omega)
  have hrb := fun wx => nright_all (w := wx) (n := b) (by omega)
  have hsa := fun wx => side_any (w := wx) (n := a)
  have hsb := fun wx => side_any (w := wx) (n := b)
  have hcc := fun wx => cmp_any (sideN a) (sideN b) wx
  by_cases ha : Right a
  · simp only [decide_eq_true ha] at hra
    have hr1 := hra ((w.alloc (.cells #[.bool a.neg, .string (txt a.dig), .int .i64 a.exp] 24)).alloc (.cells #[.bool b.neg, .string (txt b.dig), .int .i64 b.exp] 24))
    by_cases hb : Right b
    · simp only [decide_eq_true hb] at hrb
      have hcm := compare_prog ha hb
      obtain ⟨a1, a2, a3, -⟩ := right_exp ha
      obtain ⟨b1', b2', b3', -⟩ := right_exp hb
      have fa := fun wx => sizes_any (w := wx) (a := a) (b := b) ⟨a3, a1, a2⟩ ⟨b3', b1', b2'⟩
      have fb := fun wx => sizes_any (w := wx) (a := b) (b := a) ⟨b3', b1', b2'⟩ ⟨a3, a1, a2⟩
      generalize sizesN a b = sab at *
      generalize sizesN b a = sba at *
      generalize Lib.compareInt (sideN a) (sideN b) = ci at *
      generalize sideN a = sda at *
      generalize sideN b = sdb at *
      obtain ⟨na, da, ea⟩ := a
      obtain ⟨nb', db, eb⟩ := b
      simp only [numV] at *
      have HC := Lib.hid hcm
      clear hcm bA bB hB0 ha hb hra a1 a2 a3 b1' b2' b3'
      go_enter Tryd.func17, Tryd.ntmps17
      go_wp2_with fail
      refine hr1.mono ?_
      rintro e w1 ⟨rfl, k1⟩
      have hS1 := two_step (w := w) hS k1
      obtain ⟨x0, x1, x2, y0, y1, y2, b1⟩ := id hS1
      clear hS hr1
      go_wp2_with fail
      refine (hrb _).mono ?_
      rintro e w2 ⟨rfl, k2⟩
      have hS2 := two_step (w := w) hS1 k2
      clear x0 x1 x2 y0 y1 y2 b1 hS1
      obtain ⟨x0, x1, x2, y0, y1, y2, b2⟩ := id hS2
      clear hrb k1
      go_wp2_with fail
      go_region_held3 (fun wx => wx.cell? ⟨w.heap.size, 0, none⟩ = some (.bool na) ∧ wx.cell? ⟨w.heap.size, 1, none⟩ = some (.string (txt da)) ∧ wx.cell? ⟨w.heap.size, 2, none⟩ = some (.int .i64 ea) ∧
          wx.cell? ⟨w.heap.size + 1, 0, none⟩ = some (.bool nb') ∧ wx.cell? ⟨w.heap.size + 1, 1, none⟩ = some (.string (txt db)) ∧ wx.cell? ⟨w.heap.size + 1, 2, none⟩ = some (.int .i64 eb) ∧ Below w.heap.size w wx)
        (first | exact ⟨x0, x1, x2, y0, y1, y2, below_drewN b2 1⟩ | exact ⟨by assumption, by assumption, by assumption, by assumption, by assumption, by assumption, by assumption⟩ | assumption)
        (first
          | (go_at_call_of 37 (Value.string (txt da)); refine (hsa _).mono ?_; rintro e wx ⟨rfl, kx⟩; have nS := two_step (w := w) (by assumption) kx; obtain ⟨n0, n1, n2, n3, n4, n5, n6⟩ := nS)
          | (go_at_call_of 37 (Value.string (txt db)); refine (hsb _).mono ?_; rintro e wx ⟨rfl, kx⟩; have nS := two_step (w := w) (by assumption) kx; obtain ⟨n0, n1, n2, n3, n4, n5, n6⟩ := nS)
          | (go_at_call 36; refine (hcc _).mono ?_; rintro e wx ⟨rfl, rfl⟩))
      all_goals
        have hc := HC.out
        by_cases h0 : ci = 0
        · rw [if_neg (by simp [h0])] at hc
          subst h0
          cases na with
          | true =>
            rw [if_pos rfl] at hc
            have HD := Lib.hid hc
            clear hc HC
            go_wp2_with fail
            refine (fb _).mono ?_
            rintro e w5 ⟨rfl, k5⟩
            go_wp2_with fail
            go_ret
            rw [HD.out]
            exact ⟨rfl, n6.trans (k5.mono n6.size)⟩
          | false =>
            rw [if_neg (by simp)] at hc
            have HD := Lib.hid hc
            clear hc HC
            go_wp2_with fail
            refine (fa _).mono ?_
            rintro e w5 ⟨rfl, k5⟩
            go_wp2_with fail
            go_ret
            rw [HD.out]
            exact ⟨rfl, n6.trans (k5.mono n6.size)⟩
        · rw [if_pos h0] at hc
          have h0' : (ci != 0) = true := by simp [h0]
          have HD := Lib.hid hc
          clear hc HC h0
          go_wp2_with fail
          go_ret
          rw [HD.out]
          exact ⟨rfl, n6⟩
    · simp only [decide_eq_false hb] at hrb
      have hcm : compare a b = 0 := by unfold compare; rw [if_pos (.inr hb)]
      have HC := Lib.hid hcm
      obtain ⟨na, da, ea⟩ := a
      obtain ⟨nb', db, eb⟩ := b
      simp only [numV] at *
      clear hcm bA bB hB0 ha hb hra hsa hsb hcc
      go_enter Tryd.func17, Tryd.ntmps17
      go_wp2_with fail
      refine hr1.mono ?_
      rintro e w1 ⟨rfl, k1⟩
      have hS1 := two_step (w := w) hS k1
      obtain ⟨x0, x1, x2, y0, y1, y2, b1⟩ := id hS1
      clear hS hr1
      go_wp2_with fail
      refine (hrb _).mono ?_
      rintro e w2 ⟨rfl, k2⟩
      have b2 := b1.trans (k2.mono b1.size)
      go_wp2_with fail
      go_ret
      rw [HC.out]
      exact ⟨rfl, b2⟩
  · simp only [decide_eq_false ha] at hra
    have hr1 := hra ((w.alloc (.cells #[.bool a.neg, .string (txt a.dig), .int .i64 a.exp] 24)).alloc (.cells #[.bool b.neg, .string (txt b.dig), .int .i64 b.exp] 24))
    have hcm : compare a b = 0 := by unfold compare; rw [if_pos (.inl ha)]
    have HC := Lib.hid hcm
    obtain ⟨na, da, ea⟩ := a
    obtain ⟨nb', db, eb⟩ := b
    simp only [numV] at *
    clear hcm bA bB hB0 ha hra hrb hsa hsb hcc
    go_enter Tryd.func17, Tryd.ntmps17
    go_wp2_with fail
    refine hr1.mono ?_
    rintro e w1 ⟨rfl, k1⟩
    have hS1 := two_step (w := w) hS k1
    obtain ⟨x0, x1, x2, y0, y1, y2, b1⟩ := id hS1
    clear hS hr1
    go_wp2_with fail
    go_ret
    rw [HC.out]
    exact ⟨rfl, b1⟩
end Go.Proofs.YtkhdahfppajdoaaDoor.Num
