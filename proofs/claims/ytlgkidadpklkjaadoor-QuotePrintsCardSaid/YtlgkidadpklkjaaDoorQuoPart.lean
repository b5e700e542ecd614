/- The contract of the document's own answer for layer 7 (package tabulariumref07): part. Nothing is claimed here. -/
import Derived.Test.YtlgkidadpklkjaaDoorQuoCoded
namespace Go.Proofs.YtlgkidadpklkjaaDoor.Quo
open Go.RowKit Kit Txt Utf

theorem ne_u8 {c n : UInt8} (h : c ≠ n) : ((c.toNat : Int) == (n.toNat : Int)) = false := by
  simp
  intro e
  exact h (UInt8.toNat_inj.1 (by omega))

set_option maxRecDepth 100000 in
set_option maxHeartbeats 8000000 in
theorem part_any {w : World} {l : List UInt8} {i : Nat} (hl : l.length < 1000000) (hi : i < 1000000) :
    Calls Tryd.prog 26 #[.string (txt l), .int .i64 i] w fun e w' => e = .returned (partV (part (l.drop i))) ∧ Below w.heap.size w w' := by
  have hs := txt_size l
  have ht0 : (⟨#[]⟩ : ByteArray) = txt [] := rfl
  have hA := World.alloc_heap_new w (.cells #[.string (txt []), .int .i64 0, .int .i64 0] 31)
  have bA : Below w.heap.size w (w.alloc (.cells #[.string (txt []), .int .i64 0, .int .i64 0] 31)) := (Below.refl _ w).alloc (Nat.le_refl _) _
  by_cases hlt : i < l.length
  · have hlt' : decide (l.length ≤ i) = false := by simp; omega
    have hix := idx hlt
    rw [nb_get hlt] at hix
    have hd : l.drop i = l[i] :: l.drop (i + 1) := List.drop_eq_getElem_cons hlt
    have hone := fun wx => rone_any (w := wx) (s := txt l) (k := i) (by rw [txt_size]; omega) (by rw [txt_size]; exact hlt)
    simp only [txt_list] at hone
    have hok : (one (l.drop i)).2 ≠ 0 → (one (l.drop i)).2 ≤ l.length - i := fun h => by
      have := (one_bytes h).2.2
      rwa [List.length_drop] at this
    have hpt : part (l.drop i) = if (l[i]).toNat < 32 then err 3 else if l[i] ≠ 92 then (if (one (l.drop i)).2 = 0 then err 7 else ⟨(l.drop i).take (one (l.drop i)).2, (one (l.drop i)).2, 0⟩)
        else match l.drop (i + 1) with
          | [] => err 2
          | d :: r' => match sign d with
            | some x => ⟨[x], 2, 0⟩
            | none => if d = 117 then coded r' else err 3 := by
      rw [hd]
      rfl
    have hcl : (l[i]).toNat < 256 := (l[i]).toNat_lt
    by_cases c1 : (l[i]).toNat < 32
    · rw [if_pos c1] at hpt
      have HC := Lib.hid hpt
      have c1' : ((l[i]).toNat : Int) < 32 := by omega
      generalize (l[i]).toNat = x at *
      clear hpt hd hone hok hA bA
      go_enter Tryd.func26, Tryd.ntmps26
      go_wp2_with fail
      refine bodyPost_ret (v := partV (err 3)) (by simp [results, Tryd.results26, go_sem, partV, err, *]) rfl ⟨by rw [HC.out], (Below.refl _ w).alloc (Nat.le_refl _) _⟩
    · rw [if_neg c1] at hpt
      have c1' : decide (((l[i]).toNat : Int) < 32) = false := by simp; omega
      by_cases c2 : l[i] = 92
      · rw [if_neg (by simp [c2])] at hpt
        have c2' : (((l[i]).toNat : Int) != 92) = false := by rw [c2]; rfl
        have hi1 : (i : Int) + 1 = ((i + 1 : Nat) : Int) := by omega
        by_cases hlt2 : i + 1 < l.length
        · have hd2 : l.drop (i + 1) = l[i + 1] :: l.drop (i + 2) := List.drop_eq_getElem_cons hlt2
          rw [hd2] at hpt
          dsimp only at hpt
          have hix2 := idx hlt2
          rw [nb_get hlt2] at hix2
          have hco := fun wx => coded_any (w := wx) (l := l) (i := i) hl hi
          have hsl := fun wx => slM (l := l) (y := ((i + 1 : Nat) : Int)) (z := (i : Int) + 2) (i := i + 1) (j := i + 2) rfl (by omega) (by omega) (by omega) wx
          have htk : (l.drop (i + 1)).take (i + 2 - (i + 1)) = [l[i + 1]] := by
            rw [hd2, show i + 2 - (i + 1) = 1 by omega]
            rfl
          simp only [htk] at hsl
          obtain ⟨q, hq⟩ : ∃ q, i + 1 = q := ⟨_, rfl⟩
          have hqlt : q < l.length := by omega
          have hge : l[i + 1] = l[q] := by simp only [hq]
          simp only [hge] at hix2 hpt hsl
          simp only [hq] at hix2 hsl hi1
          have wq : IntKind.i64.wrap (q : Int) = (q : Int) := by simp only [IntKind.wrap, IntKind.signed, IntKind.bits]; simp; omega
          have hq2' : decide (l.length ≤ q) = false := by simp; omega
          generalize l[q] = dd at *
          generalize l[i] = c at *
          subst c2
          clear hd hd2 hone hok htk hge hcl
          have ht1 : (⟨#[8]⟩ : ByteArray) = txt [8] := rfl
          have ht2 : (⟨#[12]⟩ : ByteArray) = txt [12] := rfl
          have ht3 : (⟨#[10]⟩ : ByteArray) = txt [10] := rfl
          have ht4 : (⟨#[13]⟩ : ByteArray) = txt [13] := rfl
          have ht5 : (⟨#[9]⟩ : ByteArray) = txt [9] := rfl
          by_cases s0 : dd = 34
          · subst s0
            have hpt2 : part (l.drop i) = ⟨[34], 2, 0⟩ := hpt
            have HC := Lib.hid hpt2
            clear hpt hpt2 hA bA hco
            go_enter Tryd.func26, Tryd.ntmps26
            go_wp2_with fail
            refine bodyPost_ret (v := partV ⟨[34], 2, 0⟩) (by simp [results, Tryd.results26, go_sem, partV, *]) rfl ⟨by rw [HC.out], (Below.refl _ w).alloc (Nat.le_refl _) _⟩
          by_cases s1 : dd = 92
          · subst s1
            have hpt2 : part (l.drop i) = ⟨[92], 2, 0⟩ := hpt
            have HC := Lib.hid hpt2
            clear hpt hpt2 hA bA hco
            go_enter Tryd.func26, Tryd.ntmps26
            go_wp2_with fail
            refine bodyPost_ret (v := partV ⟨[92], 2, 0⟩) (by simp [results, Tryd.results26, go_sem, partV, *]) rfl ⟨by rw [HC.out], (Below.refl _ w).alloc (Nat.le_refl _) _⟩
          by_cases s2 : dd = 47
          · subst s2
            have hpt2 : part (l.drop i) = ⟨[47], 2, 0⟩ := hpt
            have HC := Lib.hid hpt2
            clear hpt hpt2 hA bA hco
            go_enter Tryd.func26, Tryd.ntmps26
            go_wp2_with fail
            refine bodyPost_ret (v := partV ⟨[47], 2, 0⟩) (by simp [results, Tryd.results26, go_sem, partV, *]) rfl ⟨by rw [HC.out], (Below.refl _ w).alloc (Nat.le_refl _) _⟩
          by_cases s3 : dd = 98
          · subst s3
            have hpt2 : part (l.drop i) = ⟨[8], 2, 0⟩ := hpt
            have HC := Lib.hid hpt2
            clear hpt hpt2 hA bA hco
            go_enter Tryd.func26, Tryd.ntmps26
            go_wp2_with fail
            refine bodyPost_ret (v := partV ⟨[8], 2, 0⟩) (by simp [results, Tryd.results26, go_sem, partV, *]) rfl ⟨by rw [HC.out], (Below.refl _ w).alloc (Nat.le_refl _) _⟩
          by_cases s4 : dd = 102
          · subst s4
            have hpt2 : part (l.drop i) = ⟨[12], 2, 0⟩ := hpt
            have HC := Lib.hid hpt2
            clear hpt hpt2 hA bA hco
            go_enter Tryd.func26, Tryd.ntmps26
            go_wp2_with fail
            refine bodyPost_ret (v := partV ⟨[12], 2, 0⟩) (by simp [results, Tryd.results26, go_sem, partV, *]) rfl ⟨by rw [HC.out], (Below.refl _ w).alloc (Nat.le_refl _) _⟩
          by_cases s5 : dd = 110
          · subst s5
            have hpt2 : part (l.drop i) = ⟨[10], 2, 0⟩ := hpt
            have HC := Lib.hid hpt2
            clear hpt hpt2 hA bA hco
            go_enter Tryd.func26, Tryd.ntmps26
            go_wp2_with fail
            refine bodyPost_ret (v := partV ⟨[10], 2, 0⟩) (by simp [results, Tryd.results26, go_sem, partV, *]) rfl ⟨by rw [HC.out], (Below.refl _ w).alloc (Nat.le_refl _) _⟩
          by_cases s6 : dd = 114
          · subst s6
            have hpt2 : part (l.drop i) = ⟨[13], 2, 0⟩ := hpt
            have HC := Lib.hid hpt2
            clear hpt hpt2 hA bA hco
            go_enter Tryd.func26, Tryd.ntmps26
            go_wp2_with fail
            refine bodyPost_ret (v := partV ⟨[13], 2, 0⟩) (by simp [results, Tryd.results26, go_sem, partV, *]) rfl ⟨by rw [HC.out], (Below.refl _ w).alloc (Nat.le_refl _) _⟩
          by_cases s7 : dd = 116
          · subst s7
            have hpt2 : part (l.drop i) = ⟨[9], 2, 0⟩ := hpt
            have HC := Lib.hid hpt2
            clear hpt hpt2 hA bA hco
            go_enter Tryd.func26, Tryd.ntmps26
            go_wp2_with fail
            refine bodyPost_ret (v := partV ⟨[9], 2, 0⟩) (by simp [results, Tryd.results26, go_sem, partV, *]) rfl ⟨by rw [HC.out], (Below.refl _ w).alloc (Nat.le_refl _) _⟩
          have n0 : ((dd.toNat : Int) == 34) = false := ne_u8 s0
          have n1 : ((dd.toNat : Int) == 92) = false := ne_u8 s1
          have n2 : ((dd.toNat : Int) == 47) = false := ne_u8 s2
          have n3 : ((dd.toNat : Int) == 98) = false := ne_u8 s3
          have n4 : ((dd.toNat : Int) == 102) = false := ne_u8 s4
          have n5 : ((dd.toNat : Int) == 110) = false := ne_u8 s5
          have n6 : ((dd.toNat : Int) == 114) = false := ne_u8 s6
          have n7 : ((dd.toNat : Int) == 116) = false := ne_u8 s7
          have hsg : sign dd = none := by
            unfold sign
            rw [if_neg (by rintro (h | h | h) <;> contradiction), if_neg s3, if_neg s4, if_neg s5, if_neg s6, if_neg s7]
          rw [hsg] at hpt
          dsimp only at hpt
          by_cases s8 : dd = 117
          · subst s8
            have hpt2 : part (l.drop i) = coded (l.drop (i + 2)) := hpt
            generalize coded (l.drop (i + 2)) = pc at *
            have HC := Lib.hid hpt2
            clear hpt hpt2 hsl
            simp only [partV] at hco
            go_enter Tryd.func26, Tryd.ntmps26
            go_wp2_with fail
            refine (hco _).mono ?_
            rintro e w2 ⟨rfl, k2⟩
            have hA2 := (k2.block _ (lt_of_heap hA)).trans hA
            have b2 := bA.trans (k2.mono bA.size)
            obtain ⟨q0, q1, q2⟩ := three hA2
            have qf := free_of hA2
            clear hA hA2 k2 bA hco
            go_wp2_with fail
            refine bodyPost_ret (v := partV pc) (by simp [results, Tryd.results26, go_sem, partV, *]) rfl ⟨by rw [HC.out], below_set3 b2 (Nat.le_refl _) _ _ _⟩
          · have n8 : ((dd.toNat : Int) == 117) = false := ne_u8 s8
            rw [if_neg s8] at hpt
            have HC := Lib.hid hpt
            generalize dd.toNat = dv at *
            clear hpt hA bA hco hsl
            go_enter Tryd.func26, Tryd.ntmps26
            go_wp2_with fail
            refine bodyPost_ret (v := partV (err 3)) (by simp [results, Tryd.results26, go_sem, partV, err, *]) rfl ⟨by rw [HC.out], (Below.refl _ w).alloc (Nat.le_refl _) _⟩
        · have hd2 : l.drop (i + 1) = [] := List.drop_eq_nil_of_le (by omega)
          rw [hd2] at hpt
          dsimp only at hpt
          obtain ⟨q, hq⟩ : ∃ q, i + 1 = q := ⟨_, rfl⟩
          rw [hq] at hi1
          have wq : IntKind.i64.wrap (q : Int) = (q : Int) := by simp only [IntKind.wrap, IntKind.signed, IntKind.bits]; simp; omega
          have hq2' : decide (l.length ≤ q) = true := by simp; omega
          have HC := Lib.hid hpt
          generalize (l[i]).toNat = x at *
          clear hpt hd hone hok hA bA hd2
          go_enter Tryd.func26, Tryd.ntmps26
          go_wp2_with fail
          refine bodyPost_ret (v := partV (err 2)) (by simp [results, Tryd.results26, go_sem, partV, err, *]) rfl ⟨by rw [HC.out], (Below.refl _ w).alloc (Nat.le_refl _) _⟩
      · rw [if_pos c2] at hpt
        have c2' : (((l[i]).toNat : Int) != 92) = true := by
          have := ne_u8 c2
          simpa [bne] using this
        obtain ⟨⟨o1, n⟩, ho⟩ : ∃ o, one (l.drop i) = o := ⟨_, rfl⟩
        rw [ho] at hpt hok
        simp only [ho] at hone
        dsimp only at hpt hok
        by_cases c3 : n = 0
        · subst c3
          rw [if_pos rfl] at hpt
          have HC := Lib.hid hpt
          generalize (l[i]).toNat = x at *
          clear hpt hd hok ho
          go_enter Tryd.func26, Tryd.ntmps26
          go_wp2_with fail
          refine (hone _).mono ?_
          rintro e w2 ⟨rfl, k2⟩
          have hA2 := (k2.block _ (lt_of_heap hA)).trans hA
          have b2 := bA.trans (k2.mono bA.size)
          obtain ⟨q0, q1, q2⟩ := three hA2
          have qf := free_of hA2
          clear hA hA2 k2 bA hone
          go_wp2_with fail
          refine bodyPost_ret (v := partV (err 7)) (by simp [results, Tryd.results26, go_sem, partV, err, *]) rfl ⟨by rw [HC.out], below_set3 b2 (Nat.le_refl _) _ _ _⟩
        · rw [if_neg c3] at hpt
          have hn := hok c3
          have c3' : ((n : Int) == 0) = false := by simp [c3]
          have hsl := fun wx => slM (l := l) (y := (i : Int)) (z := (i : Int) + (n : Int)) (i := i) (j := i + n) rfl (by omega) (by omega) (by omega) wx
          simp only [Nat.add_sub_cancel_left] at hsl
          generalize (l.drop i).take n = T at *
          have HC := Lib.hid hpt
          generalize (l[i]).toNat = x at *
          clear hpt hd hok ho
          go_enter Tryd.func26, Tryd.ntmps26
          go_wp2_with fail
          refine (hone _).mono ?_
          rintro e w2 ⟨rfl, k2⟩
          have hA2 := (k2.block _ (lt_of_heap hA)).trans hA
          have b2 := bA.trans (k2.mono bA.size)
          obtain ⟨q0, q1, q2⟩ := three hA2
          have qf := free_of hA2
          clear hA hA2 k2 bA hone
          go_wp2_with fail
          refine bodyPost_ret (v := partV ⟨T, n, 0⟩) (by simp [results, Tryd.results26, go_sem, partV, *]) rfl ⟨by rw [HC.out], below_set3 b2 (Nat.le_refl _) _ _ _⟩
  · have hlt' : decide (l.length ≤ i) = true := by simp; omega
    have hd : l.drop i = [] := List.drop_eq_nil_of_le (by omega)
    have hpt : part (l.drop i) = err 2 := by rw [hd]; rfl
    have HC := Lib.hid hpt
    clear hd hpt hA bA
    go_enter Tryd.func26, Tryd.ntmps26
    go_wp2_with fail
    refine bodyPost_ret (v := partV (err 2)) (by simp [results, Tryd.results26, go_sem, partV, err, *]) rfl ⟨by rw [HC.out], (Below.refl _ w).alloc (Nat.le_refl _) _⟩
end Go.Proofs.YtlgkidadpklkjaaDoor.Quo
