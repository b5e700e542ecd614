/- A part of what is_holds leans on (its texts, put together). Nothing is claimed here. -/
import Derived.Test.YtlfbnfphocpgeaaGreatDoorIs8
namespace Go.Proofs.YtlfbnfphocpgeaaGreatDoor.Quo
open Go.RowKit Kit Txt Utf
def partV (p : Part) : Value := .agg #[.string (txt p.s), .int .i64 p.size, .int .i64 p.e]
theorem follow_nb (l : List UInt8) (q : Nat) : follow (l.drop q) = if l.length ≤ q then 2 else if nb l q ≠ 92 then 3 else if l.length ≤ q + 1 then 2 else if nb l (q + 1) ≠ 117 then 3 else 0 := by
 by_cases h : l.length ≤ q
 · rw [if_pos h, List.drop_eq_nil_of_le h]
   rfl
 rw [if_neg h, List.drop_eq_getElem_cons (by omega), nb_get (by omega)]
 unfold follow
 dsimp only
 have e1 : (l[q]).toNat ≠ 92 ↔ l[q] ≠ 92 := not_congr ⟨fun e => UInt8.toNat_inj.1 e, fun e => by rw [e]; rfl⟩
 by_cases h2 : l[q] ≠ 92
 · rw [if_pos h2, if_pos (e1.2 h2)]
 rw [if_neg h2, if_neg (fun e => h2 (e1.1 e))]
 by_cases h3 : l.length ≤ q + 1
 · rw [if_pos h3, List.drop_eq_nil_of_le h3]
 rw [if_neg h3, List.drop_eq_getElem_cons (by omega), nb_get (by omega)]
 dsimp only
 have e2 : (l[q + 1]).toNat ≠ 117 ↔ l[q + 1] ≠ 117 := not_congr ⟨fun e => UInt8.toNat_inj.1 e, fun e => by rw [e]; rfl⟩
 by_cases h4 : l[q + 1] ≠ 117
 · rw [if_pos h4, if_pos (e2.2 h4)]
 rw [if_neg h4, if_neg (fun e => h4 (e2.1 e))]
set_option maxRecDepth 100000 in
set_option maxHeartbeats 8000000 in
theorem coded_any {w : World} {l : List UInt8} {i : Nat} (hl : l.length < 1000000) (hi : i < 1000000) :
   Calls Tryz.prog 88 #[.string (txt l), .int .i64 i] w fun e w' => e = .returned (partV (coded (l.drop (i + 2)))) ∧ Below w.heap.size w w' := by
 have hs := txt_size l
 have ht0 : (⟨#[]⟩ : ByteArray) = txt [] := rfl
 have hA := World.alloc_heap_new w (.cells #[.string (txt []), .int .i64 0, .int .i64 0] 77)
 have bA : Below w.heap.size w (w.alloc (.cells #[.string (txt []), .int .i64 0, .int .i64 0] 77)) := (Below.refl _ w).alloc (Nat.le_refl _) _
 have hu1 := fun wx => unit_any (w := wx) (l := l) (i := i + 2) hl (by omega)
 have hu2 := fun wx => unit_any (w := wx) (l := l) (i := i + 8) hl (by omega)
 have hb1 := unit_lt (l.drop (i + 2))
 have hb2 := unit_lt (l.drop (i + 8))
 have hf := follow_nb l (i + 6)
 have hco : coded (l.drop (i + 2)) = if (unit (l.drop (i + 2))).2 ≠ 0 then err (unit (l.drop (i + 2))).2
     else if 56320 ≤ (unit (l.drop (i + 2))).1 ∧ (unit (l.drop (i + 2))).1 ≤ 57343 then err 3
     else if (unit (l.drop (i + 2))).1 < 55296 ∨ 57343 < (unit (l.drop (i + 2))).1 then ⟨enc (unit (l.drop (i + 2))).1, 6, 0⟩
     else if follow (l.drop (i + 6)) ≠ 0 then err (follow (l.drop (i + 6)))
     else if (unit (l.drop (i + 8))).2 ≠ 0 then err (unit (l.drop (i + 8))).2
     else if (unit (l.drop (i + 8))).1 < 56320 ∨ 57343 < (unit (l.drop (i + 8))).1 then err 3
     else ⟨enc (65536 + ((unit (l.drop (i + 2))).1 - 55296) * 1024 + ((unit (l.drop (i + 8))).1 - 56320)), 12, 0⟩ := by
   unfold coded
   rw [List.drop_drop, List.drop_drop]
 generalize follow (l.drop (i + 6)) = fo at *
 obtain ⟨⟨n, e1⟩, hne⟩ : ∃ x, unit (l.drop (i + 2)) = x := ⟨_, rfl⟩
 obtain ⟨⟨m, e2⟩, hme⟩ : ∃ x, unit (l.drop (i + 8)) = x := ⟨_, rfl⟩
 rw [hne] at hb1 hco
 rw [hme] at hb2 hco
 simp only [hne] at hu1
 simp only [hme] at hu2
 dsimp only at hb1 hb2 hco
 have hci2 : ((i + 2 : Nat) : Int) = (i : Int) + 2 := by omega
 have hci8 : ((i + 8 : Nat) : Int) = (i : Int) + 8 := by omega
 simp only [hci2] at hu1
 simp only [hci8] at hu2
 clear hne hme hci2 hci8
 have HF := Lib.hid hf
 clear hf
 by_cases c1 : e1 = 0
 · subst c1
   rw [if_neg (by simp)] at hco
   by_cases c2 : 56320 ≤ n ∧ n ≤ 57343
   · rw [if_pos c2] at hco
     have HC := Lib.hid hco
     have d1 : (56320 : Int) ≤ (n : Int) := by omega
     have d2 : (n : Int) ≤ 57343 := by omega
     clear hco hA bA
     go_enter Tryz.func88, Tryz.ntmps88
     go_wp2_with fail
     refine (hu1 _).mono ?_
     rintro e w1 ⟨rfl, rfl⟩
     go_wp2_with fail
     refine bodyPost_ret (v := partV (err 3)) (by simp [results, Tryz.results88, go_sem, partV, err, *]) rfl ⟨by rw [HC.out], (Below.refl _ w).alloc (Nat.le_refl _) _⟩
   · rw [if_neg c2] at hco
     have hcase2 : decide ((56320 : Int) ≤ (n : Int)) = false ∨ (decide ((56320 : Int) ≤ (n : Int)) = true ∧ decide ((n : Int) ≤ 57343) = false) := by simp; omega
     by_cases c3 : n < 55296 ∨ 57343 < n
     · rw [if_pos c3] at hco
       have hpu := fun wx => rput_any (w := wx) (c := (n : Int)) (by omega) (by omega)
       have hsc : Scalar n := by unfold Scalar; omega
       simp only [putL_of hsc] at hpu
       have hpu' : ∀ wx, Calls Tryz.prog 121 #[.int .i64 (n : Int)] wx fun e w' => e = .returned (.string (txt (enc n))) ∧ Below wx.heap.size wx w' := hpu
       generalize enc n = en at *
       have hcase3 : decide ((n : Int) < 55296) = true ∨ (decide ((n : Int) < 55296) = false ∧ decide ((57343 : Int) < (n : Int)) = true) := by simp; omega
       have HC := Lib.hid hco
       clear hco hpu c2 c3 hsc
       rcases hcase2 with d1 | ⟨d1, d2⟩ <;> rcases hcase3 with d3 | ⟨d3, d4⟩
       all_goals
         go_enter Tryz.func88, Tryz.ntmps88
         go_wp2_with fail
         refine (hu1 _).mono ?_
         rintro e w1 ⟨rfl, rfl⟩
         go_wp2_with fail
         refine (hpu' _).mono ?_
         rintro e w2 ⟨rfl, k2⟩
         have hA2 := (k2.block _ (lt_of_heap hA)).trans hA
         have b2 := bA.trans (k2.mono bA.size)
         obtain ⟨q0, q1, q2⟩ := three hA2
         have qf := free_of hA2
         clear hA hA2 k2 bA hpu' hu1 hu2
         go_wp2_with fail
         refine bodyPost_ret (v := partV ⟨en, 6, 0⟩) (by simp [results, Tryz.results88, go_sem, partV, *]) rfl ⟨by rw [HC.out], below_set3 b2 (Nat.le_refl _) _ _ _⟩
     · rw [if_neg c3] at hco
       have d3 : decide ((n : Int) < 55296) = false := by simp; omega
       have d4 : decide ((57343 : Int) < (n : Int)) = false := by simp; omega
       have d1 : decide ((56320 : Int) ≤ (n : Int)) = false := by simp; omega
       have hn1 : 55296 ≤ n ∧ n < 56320 := by omega
       have HC0 := Lib.hid hco
       obtain ⟨q, hq⟩ : ∃ q, i + 6 = q := ⟨_, rfl⟩
       have hqi : (i : Int) + 6 = (q : Int) := by omega
       have wq : IntKind.i64.wrap (q : Int) = (q : Int) := by simp only [IntKind.wrap, IntKind.signed, IntKind.bits]; simp; omega
       have hf := HF.out
       have hq1e : i + 6 + 1 = q + 1 := by omega
       rw [hq1e, hq] at hf
       have HF2 := Lib.hid hf
       clear hco hf HF c2 c3 hcase2 hq1e hq
       go_enter Tryz.func88, Tryz.ntmps88
       go_wp2_with fail
       refine (hu1 _).mono ?_
       rintro e w1 ⟨rfl, rfl⟩
       go_wp2_with fail
       go_loopw [7] (fun j wr => ∃ k : Nat, k ≤ 2 ∧ j = .int .i64 k ∧ (1 ≤ k → q < l.length ∧ nb l q = 92) ∧ (2 ≤ k → q + 1 < l.length ∧ nb l (q + 1) = 117) ∧ wr.heap[w.heap.size]? = some (.cells #[.string (txt []), .int .i64 0, .int .i64 0] 77 (0, 0)) ∧ Below w.heap.size w wr) (fun j _ => 2 - (intOf j).toNat)
       case atStart => exact ⟨0, by omega, rfl, by omega, by omega, hA, bA⟩
       case round =>
         clear hA bA
         obtain ⟨k, hk, rfl, hk1, hk2, hA, bA⟩ := hrel
         obtain ⟨q0, q1, q2⟩ := three hA
         have qf := free_of hA
         rcases (show k = 0 ∨ k = 1 ∨ k = 2 by omega) with rfl | rfl | rfl
         · by_cases hlt : q < l.length
           · have hlt' : decide (l.length ≤ q) = false := by simp; omega
             have hix := idx hlt
             have hA2 : (wr.alloc (.cells #[.int .u8 92, .int .u8 117] 5)).drew.heap[w.heap.size]? = some (.cells #[.string (txt []), .int .i64 0, .int .i64 0] 77 (0, 0)) := new_of hA _
             have b2 : Below w.heap.size w (wr.alloc (.cells #[.int .u8 92, .int .u8 117] 5)).drew := below_drewN (bA.alloc bA.size _) 1
             by_cases h92 : nb l q = 92
             · rw [h92] at hix
               have HH := Lib.hid (show q < l.length ∧ nb l q = 92 from ⟨hlt, h92⟩)
               clear hk1 hk2 h92
               go_upto_region 13 with fail
               go_region
               all_goals
                 go_wp2_with fail
                 go_roundw
                 case rel => exact ⟨1, by omega, by first | rfl | go_num, fun _ => HH.out, by omega, hA2, b2⟩
                 case measure => simp [intOf]
             · have hfo : fo = 3 := by rw [HF2.out, if_neg (by omega), if_pos h92]
               have hco := HC0.out
               rw [hfo, if_pos (by decide)] at hco
               have HC := Lib.hid hco
               have h92' : ((nb l q : Int) != 92) = true := by simp; omega
               generalize nb l q = x at *
               clear hk1 hk2 hco HC0 HF2 hA bA q0 q1 q2 qf
               go_upto_region 13 with fail
               go_region
               all_goals
                 generalize (wr.alloc (.cells #[.int .u8 92, .int .u8 117] 5)).drew = wz at *
                 obtain ⟨q0, q1, q2⟩ := three hA2
                 have qf := free_of hA2
                 go_wp2_with fail
                 refine bodyPost_ret (v := partV (err 3)) (by simp [results, Tryz.results88, go_sem, partV, err, *]) rfl ⟨by rw [HC.out], below_set3 b2 (Nat.le_refl _) _ _ _⟩
           · have hlt' : decide (l.length ≤ q) = true := by simp; omega
             have hfo : fo = 2 := by rw [HF2.out, if_pos (by omega)]
             have hco := HC0.out
             rw [hfo, if_pos (by decide)] at hco
             have HC := Lib.hid hco
             clear hco HC0 HF2 hk1 hk2
             go_wp2_with fail
             refine bodyPost_ret (v := partV (err 2)) (by simp [results, Tryz.results88, go_sem, partV, err, *]) rfl ⟨by rw [HC.out], below_set3 bA (Nat.le_refl _) _ _ _⟩
         · have H1 := Lib.hid (hk1 (by omega))
           obtain ⟨qz, hqz⟩ : ∃ qz, q + 1 = qz := ⟨_, rfl⟩
           have hqi1 : (q : Int) + 1 = (qz : Int) := by omega
           have wq1 : IntKind.i64.wrap (qz : Int) = (qz : Int) := by simp only [IntKind.wrap, IntKind.signed, IntKind.bits]; simp; omega
           rw [hqz] at HF2 ⊢
           by_cases hlt : qz < l.length
           · have hlt' : decide (l.length ≤ qz) = false := by simp; omega
             have hix := idx hlt
             have hA2 : (wr.alloc (.cells #[.int .u8 92, .int .u8 117] 5)).drew.heap[w.heap.size]? = some (.cells #[.string (txt []), .int .i64 0, .int .i64 0] 77 (0, 0)) := new_of hA _
             have b2 : Below w.heap.size w (wr.alloc (.cells #[.int .u8 92, .int .u8 117] 5)).drew := below_drewN (bA.alloc bA.size _) 1
             by_cases h92 : nb l qz = 117
             · rw [h92] at hix
               have HH := Lib.hid (show qz < l.length ∧ nb l qz = 117 from ⟨hlt, h92⟩)
               clear hk1 hk2 h92
               go_upto_region 13 with fail
               go_region
               all_goals
                 go_wp2_with fail
                 go_roundw
                 case rel => exact ⟨2, by omega, by first | rfl | go_num, fun _ => H1.out, fun _ => HH.out, hA2, b2⟩
                 case measure => simp [intOf]
             · have hfo : fo = 3 := by rw [HF2.out, if_neg (by have := H1.out; omega), if_neg (by have := H1.out; omega), if_neg (by omega), if_pos h92]
               have hco := HC0.out
               rw [hfo, if_pos (by decide)] at hco
               have HC := Lib.hid hco
               have h92' : ((nb l qz : Int) != 117) = true := by simp; omega
               generalize nb l qz = x at *
               clear hk1 hk2 hco HC0 HF2 hA bA q0 q1 q2 qf
               go_upto_region 13 with fail
               go_region
               all_goals
                 generalize (wr.alloc (.cells #[.int .u8 92, .int .u8 117] 5)).drew = wz at *
                 obtain ⟨q0, q1, q2⟩ := three hA2
                 have qf := free_of hA2
                 go_wp2_with fail
                 refine bodyPost_ret (v := partV (err 3)) (by simp [results, Tryz.results88, go_sem, partV, err, *]) rfl ⟨by rw [HC.out], below_set3 b2 (Nat.le_refl _) _ _ _⟩
           · have hlt' : decide (l.length ≤ qz) = true := by simp; omega
             have hfo : fo = 2 := by rw [HF2.out, if_neg (by have := H1.out; omega), if_neg (by have := H1.out; omega), if_pos (by omega)]
             have hco := HC0.out
             rw [hfo, if_pos (by decide)] at hco
             have HC := Lib.hid hco
             clear hco HC0 HF2 hk1 hk2
             go_wp2_with fail
             refine bodyPost_ret (v := partV (err 2)) (by simp [results, Tryz.results88, go_sem, partV, err, *]) rfl ⟨by rw [HC.out], below_set3 bA (Nat.le_refl _) _ _ _⟩
         · obtain ⟨h1, h2⟩ := hk1 (by omega)
           obtain ⟨h3, h4⟩ := hk2 (by omega)
           have hfo : fo = 0 := by rw [HF2.out, if_neg (by omega), if_neg (by omega), if_neg (by omega), if_neg (by omega)]
           have hco := HC0.out
           rw [hfo, if_neg (by simp)] at hco
           clear HC0 HF2 hk1 hk2 h1 h2 h3 h4 hfo
           by_cases c5 : e2 = 0
           · subst c5
             rw [if_neg (by simp)] at hco
             by_cases c6 : m < 56320 ∨ 57343 < m
             · rw [if_pos c6] at hco
               have HC := Lib.hid hco
               have hcase : decide ((m : Int) < 56320) = true ∨ (decide ((m : Int) < 56320) = false ∧ decide ((57343 : Int) < (m : Int)) = true) := by simp; omega
               clear hco c6
               rcases hcase with d5 | ⟨d5, d6⟩
               all_goals
                 go_wp2_with fail
                 refine (hu2 _).mono ?_
                 rintro e w3 ⟨rfl, rfl⟩
                 go_wp2_with fail
                 refine bodyPost_ret (v := partV (err 3)) (by simp [results, Tryz.results88, go_sem, partV, err, *]) rfl ⟨by rw [HC.out], below_set3 bA (Nat.le_refl _) _ _ _⟩
             · rw [if_neg c6] at hco
               have d5 : decide ((m : Int) < 56320) = false := by simp; omega
               have d6 : decide ((57343 : Int) < (m : Int)) = false := by simp; omega
               obtain ⟨cc, hcc⟩ : ∃ cc, 65536 + (n - 55296) * 1024 + (m - 56320) = cc := ⟨_, rfl⟩
               rw [hcc] at hco
               have hE : 65536 + ((n : Int) - 55296) * 1024 + (m : Int) - 56320 = (cc : Int) := by omega
               have hsc : Scalar cc := by unfold Scalar; omega
               have hpu := fun wx => rput_any (w := wx) (c := 65536 + ((n : Int) - 55296) * 1024 + (m : Int) - 56320) (by omega) (by omega)
               simp only [hE, putL_of hsc] at hpu
               have hpu' : ∀ wx, Calls Tryz.prog 121 #[.int .i64 (cc : Int)] wx fun e w' => e = .returned (.string (txt (enc cc))) ∧ Below wx.heap.size wx w' := hpu
               have wcc : IntKind.i64.wrap (cc : Int) = (cc : Int) := by simp only [IntKind.wrap, IntKind.signed, IntKind.bits]; simp; omega
               have HC := Lib.hid hco
               clear hco hpu c6 hcc hsc
               generalize enc cc = en at *
               go_wp2_with fail
               refine (hu2 _).mono ?_
               rintro e w3 ⟨rfl, rfl⟩
               go_wp2_with fail
               refine (hpu' _).mono ?_
               rintro e w4 ⟨rfl, k4⟩
               have hA4 := (k4.block _ (lt_of_heap hA)).trans hA
               have b4 := bA.trans (k4.mono bA.size)
               clear q0 q1 q2 qf hA bA k4 hpu' hu1 hu2
               obtain ⟨q0, q1, q2⟩ := three hA4
               have qf := free_of hA4
               go_wp2_with fail
               refine bodyPost_ret (v := partV ⟨en, 12, 0⟩) (by simp [results, Tryz.results88, go_sem, partV, *]) rfl ⟨by rw [HC.out], below_set3 b4 (Nat.le_refl _) _ _ _⟩
           · rw [if_pos c5] at hco
             have HC := Lib.hid hco
             have c5' : ((e2 : Int) != 0) = true := by simp; omega
             clear hco
             go_wp2_with fail
             refine (hu2 _).mono ?_
             rintro e w3 ⟨rfl, rfl⟩
             go_wp2_with fail
             refine bodyPost_ret (v := partV (err e2)) (by simp [results, Tryz.results88, go_sem, partV, err, *]) rfl ⟨by rw [HC.out], below_set3 bA (Nat.le_refl _) _ _ _⟩
 · rw [if_pos c1] at hco
   have HC := Lib.hid hco
   have c1' : ((e1 : Int) != 0) = true := by simp; omega
   clear hco hA bA
   go_enter Tryz.func88, Tryz.ntmps88
   go_wp2_with fail
   refine (hu1 _).mono ?_
   rintro e w1 ⟨rfl, rfl⟩
   go_wp2_with fail
   refine bodyPost_ret (v := partV (err e1)) (by simp [results, Tryz.results88, go_sem, partV, err, *]) rfl ⟨by rw [HC.out], (Below.refl _ w).alloc (Nat.le_refl _) _⟩
end Go.Proofs.YtlfbnfphocpgeaaGreatDoor.Quo
namespace Go.Proofs.YtlfbnfphocpgeaaGreatDoor.Quo
open Go.RowKit Kit Txt Utf
theorem ne_u8 {c n : UInt8} (h : c ≠ n) : ((c.toNat : Int) == (n.toNat : Int)) = false := by
 simp
 intro e
 exact h (UInt8.toNat_inj.1 (by omega))
set_option maxRecDepth 100000 in
set_option maxHeartbeats 8000000 in
theorem part_any {w : World} {l : List UInt8} {i : Nat} (hl : l.length < 1000000) (hi : i < 1000000) :
   Calls Tryz.prog 59 #[.string (txt l), .int .i64 i] w fun e w' => e = .returned (partV (part (l.drop i))) ∧ Below w.heap.size w w' := by
 have hs := txt_size l
 have ht0 : (⟨#[]⟩ : ByteArray) = txt [] := rfl
 have hA := World.alloc_heap_new w (.cells #[.string (txt []), .int .i64 0, .int .i64 0] 77)
 have bA : Below w.heap.size w (w.alloc (.cells #[.string (txt []), .int .i64 0, .int .i64 0] 77)) := (Below.refl _ w).alloc (Nat.le_refl _) _
 by_cases hlt : i < l.length
 · have hlt' : decide (l.length ≤ i) = false := by simp; omega
   have hix := idx hlt
   rw [nb_get hlt] at hix
   have hd : l.drop i = l[i] :: l.drop (i + 1) := List.drop_eq_getElem_cons hlt
   have hone := fun wx => rone_any (w := wx) (s := txt l) (k := i) (by rw [txt_size]; omega) (by rw [txt_size]; exact hlt)
   simp only [txt_list] at hone
   have hok : (one (l.drop i)).2 ≠ 0 → (one (l.drop i)).2 ≤ l.length - i := fun h => by
     have := (one_bytes h).2.2
     rwa [List.length_drop] at this
   have hpt : part (l.drop i) = if (l[i]).toNat < 32 then err 3 else if l[i] ≠ 92 then (if (one (l.drop i)).2 = 0 then err 7 else ⟨(l.drop i).take (one (l.drop i)).2, (one (l.drop i)).2, 0⟩)
       else match l.drop (i + 1) with
         | [] => err 2
         | d :: r' => match sign d with
           | some x => ⟨[x], 2, 0⟩
           | none => if d = 117 then coded r' else err 3 := by
     rw [hd]
     rfl
   have hcl : (l[i]).toNat < 256 := (l[i]).toNat_lt
   by_cases c1 : (l[i]).toNat < 32
   · rw [if_pos c1] at hpt
     have HC := Lib.hid hpt
     have c1' : ((l[i]).toNat : Int) < 32 := by omega
     generalize (l[i]).toNat = x at *
     clear hpt hd hone hok hA bA
     go_enter Tryz.func59, Tryz.ntmps59
     go_wp2_with fail
     refine bodyPost_ret (v := partV (err 3)) (by simp [results, Tryz.results59, go_sem, partV, err, *]) rfl ⟨by rw [HC.out], (Below.refl _ w).alloc (Nat.le_refl _) _⟩
   · rw [if_neg c1] at hpt
     have c1' : decide (((l[i]).toNat : Int) < 32) = false := by simp; omega
     by_cases c2 : l[i] = 92
     · rw [if_neg (by simp [c2])] at hpt
       have c2' : (((l[i]).toNat : Int) != 92) = false := by rw [c2]; rfl
       have hi1 : (i : Int) + 1 = ((i + 1 : Nat) : Int) := by omega
       by_cases hlt2 : i + 1 < l.length
       · have hd2 : l.drop (i + 1) = l[i + 1] :: l.drop (i + 2) := List.drop_eq_getElem_cons hlt2
         rw [hd2] at hpt
         dsimp only at hpt
         have hix2 := idx hlt2
         rw [nb_get hlt2] at hix2
         have hco := fun wx => coded_any (w := wx) (l := l) (i := i) hl hi
         have hsl := fun wx => slM (l := l) (y := ((i + 1 : Nat) : Int)) (z := (i : Int) + 2) (i := i + 1) (j := i + 2) rfl (by omega) (by omega) (by omega) wx
         have htk : (l.drop (i + 1)).take (i + 2 - (i + 1)) = [l[i + 1]] := by
           rw [hd2, show i + 2 - (i + 1) = 1 by omega]
           rfl
         simp only [htk] at hsl
         obtain ⟨q, hq⟩ : ∃ q, i + 1 = q := ⟨_, rfl⟩
         have hqlt : q < l.length := by omega
         have hge : l[i + 1] = l[q] := by simp only [hq]
         simp only [hge] at hix2 hpt hsl
         simp only [hq] at hix2 hsl hi1
         have wq : IntKind.i64.wrap (q : Int) = (q : Int) := by simp only [IntKind.wrap, IntKind.signed, IntKind.bits]; simp; omega
         have hq2' : decide (l.length ≤ q) = false := by simp; omega
         generalize l[q] = dd at *
         generalize l[i] = c at *
         subst c2
         clear hd hd2 hone hok htk hge hcl
         have ht1 : (⟨#[8]⟩ : ByteArray) = txt [8] := rfl
         have ht2 : (⟨#[12]⟩ : ByteArray) = txt [12] := rfl
         have ht3 : (⟨#[10]⟩ : ByteArray) = txt [10] := rfl
         have ht4 : (⟨#[13]⟩ : ByteArray) = txt [13] := rfl
         have ht5 : (⟨#[9]⟩ : ByteArray) = txt [9] := rfl
         by_cases s0 : dd = 34
         · subst s0
           have hpt2 : part (l.drop i) = ⟨[34], 2, 0⟩ := hpt
           have HC := Lib.hid hpt2
           clear hpt hpt2 hA bA hco
           go_enter Tryz.func59, Tryz.ntmps59
           go_wp2_with fail
           refine bodyPost_ret (v := partV ⟨[34], 2, 0⟩) (by simp [results, Tryz.results59, go_sem, partV, *]) rfl ⟨by rw [HC.out], (Below.refl _ w).alloc (Nat.le_refl _) _⟩
         by_cases s1 : dd = 92
         · subst s1
           have hpt2 : part (l.drop i) = ⟨[92], 2, 0⟩ := hpt
           have HC := Lib.hid hpt2
           clear hpt hpt2 hA bA hco
           go_enter Tryz.func59, Tryz.ntmps59
           go_wp2_with fail
           refine bodyPost_ret (v := partV ⟨[92], 2, 0⟩) (by simp [results, Tryz.results59, go_sem, partV, *]) rfl ⟨by rw [HC.out], (Below.refl _ w).alloc (Nat.le_refl _) _⟩
         by_cases s2 : dd = 47
         · subst s2
           have hpt2 : part (l.drop i) = ⟨[47], 2, 0⟩ := hpt
           have HC := Lib.hid hpt2
           clear hpt hpt2 hA bA hco
           go_enter Tryz.func59, Tryz.ntmps59
           go_wp2_with fail
           refine bodyPost_ret (v := partV ⟨[47], 2, 0⟩) (by simp [results, Tryz.results59, go_sem, partV, *]) rfl ⟨by rw [HC.out], (Below.refl _ w).alloc (Nat.le_refl _) _⟩
         by_cases s3 : dd = 98
         · subst s3
           have hpt2 : part (l.drop i) = ⟨[8], 2, 0⟩ := hpt
           have HC := Lib.hid hpt2
           clear hpt hpt2 hA bA hco
           go_enter Tryz.func59, Tryz.ntmps59
           go_wp2_with fail
           refine bodyPost_ret (v := partV ⟨[8], 2, 0⟩) (by simp [results, Tryz.results59, go_sem, partV, *]) rfl ⟨by rw [HC.out], (Below.refl _ w).alloc (Nat.le_refl _) _⟩
         by_cases s4 : dd = 102
         · subst s4
           have hpt2 : part (l.drop i) = ⟨[12], 2, 0⟩ := hpt
           have HC := Lib.hid hpt2
           clear hpt hpt2 hA bA hco
           go_enter Tryz.func59, Tryz.ntmps59
           go_wp2_with fail
           refine bodyPost_ret (v := partV ⟨[12], 2, 0⟩) (by simp [results, Tryz.results59, go_sem, partV, *]) rfl ⟨by rw [HC.out], (Below.refl _ w).alloc (Nat.le_refl _) _⟩
         by_cases s5 : dd = 110
         · subst s5
           have hpt2 : part (l.drop i) = ⟨[10], 2, 0⟩ := hpt
           have HC := Lib.hid hpt2
           clear hpt hpt2 hA bA hco
           go_enter Tryz.func59, Tryz.ntmps59
           go_wp2_with fail
           refine bodyPost_ret (v := partV ⟨[10], 2, 0⟩) (by simp [results, Tryz.results59, go_sem, partV, *]) rfl ⟨by rw [HC.out], (Below.refl _ w).alloc (Nat.le_refl _) _⟩
         by_cases s6 : dd = 114
         · subst s6
           have hpt2 : part (l.drop i) = ⟨[13], 2, 0⟩ := hpt
           have HC := Lib.hid hpt2
           clear hpt hpt2 hA bA hco
           go_enter Tryz.func59, Tryz.ntmps59
           go_wp2_with fail
           refine bodyPost_ret (v := partV ⟨[13], 2, 0⟩) (by simp [results, Tryz.results59, go_sem, partV, *]) rfl ⟨by rw [HC.out], (Below.refl _ w).alloc (Nat.le_refl _) _⟩
         by_cases s7 : dd = 116
         · subst s7
           have hpt2 : part (l.drop i) = ⟨[9], 2, 0⟩ := hpt
           have HC := Lib.hid hpt2
           clear hpt hpt2 hA bA hco
           go_enter Tryz.func59, Tryz.ntmps59
           go_wp2_with fail
           refine bodyPost_ret (v := partV ⟨[9], 2, 0⟩) (by simp [results, Tryz.results59, go_sem, partV, *]) rfl ⟨by rw [HC.out], (Below.refl _ w).alloc (Nat.le_refl _) _⟩
         have n0 : ((dd.toNat : Int) == 34) = false := ne_u8 s0
         have n1 : ((dd.toNat : Int) == 92) = false := ne_u8 s1
         have n2 : ((dd.toNat : Int) == 47) = false := ne_u8 s2
         have n3 : ((dd.toNat : Int) == 98) = false := ne_u8 s3
         have n4 : ((dd.toNat : Int) == 102) = false := ne_u8 s4
         have n5 : ((dd.toNat : Int) == 110) = false := ne_u8 s5
         have n6 : ((dd.toNat : Int) == 114) = false := ne_u8 s6
         have n7 : ((dd.toNat : Int) == 116) = false := ne_u8 s7
         have hsg : sign dd = none := by
           unfold sign
           rw [if_neg (by rintro (h | h | h) <;> contradiction), if_neg s3, if_neg s4, if_neg s5, if_neg s6, if_neg s7]
         rw [hsg] at hpt
         dsimp only at hpt
         by_cases s8 : dd = 117
         · subst s8
           have hpt2 : part (l.drop i) = coded (l.drop (i + 2)) := hpt
           generalize coded (l.drop (i + 2)) = pc at *
           have HC := Lib.hid hpt2
           clear hpt hpt2 hsl
           simp only [partV] at hco
           go_enter Tryz.func59, Tryz.ntmps59
           go_wp2_with fail
           refine (hco _).mono ?_
           rintro e w2 ⟨rfl, k2⟩
           have hA2 := (k2.block _ (lt_of_heap hA)).trans hA
           have b2 := bA.trans (k2.mono bA.size)
           obtain ⟨q0, q1, q2⟩ := three hA2
           have qf := free_of hA2
           clear hA hA2 k2 bA hco
           go_wp2_with fail
           refine bodyPost_ret (v := partV pc) (by simp [results, Tryz.results59, go_sem, partV, *]) rfl ⟨by rw [HC.out], below_set3 b2 (Nat.le_refl _) _ _ _⟩
         · have n8 : ((dd.toNat : Int) == 117) = false := ne_u8 s8
           rw [if_neg s8] at hpt
           have HC := Lib.hid hpt
           generalize dd.toNat = dv at *
           clear hpt hA bA hco hsl
           go_enter Tryz.func59, Tryz.ntmps59
           go_wp2_with fail
           refine bodyPost_ret (v := partV (err 3)) (by simp [results, Tryz.results59, go_sem, partV, err, *]) rfl ⟨by rw [HC.out], (Below.refl _ w).alloc (Nat.le_refl _) _⟩
       · have hd2 : l.drop (i + 1) = [] := List.drop_eq_nil_of_le (by omega)
         rw [hd2] at hpt
         dsimp only at hpt
         obtain ⟨q, hq⟩ : ∃ q, i + 1 = q := ⟨_, rfl⟩
         rw [hq] at hi1
         have wq : IntKind.i64.wrap (q : Int) = (q : Int) := by simp only [IntKind.wrap, IntKind.signed, IntKind.bits]; simp; omega
         have hq2' : decide (l.length ≤ q) = true := by simp; omega
         have HC := Lib.hid hpt
         generalize (l[i]).toNat = x at *
         clear hpt hd hone hok hA bA hd2
         go_enter Tryz.func59, Tryz.ntmps59
         go_wp2_with fail
         refine bodyPost_ret (v := partV (err 2)) (by simp [results, Tryz.results59, go_sem, partV, err, *]) rfl ⟨by rw [HC.out], (Below.refl _ w).alloc (Nat.le_refl _) _⟩
     · rw [if_pos c2] at hpt
       have c2' : (((l[i]).toNat : Int) != 92) = true := by
         have := ne_u8 c2
         simpa [bne] using this
       obtain ⟨⟨o1, n⟩, ho⟩ : ∃ o, one (l.drop i) = o := ⟨_, rfl⟩
       rw [ho] at hpt hok
       simp only [ho] at hone
       dsimp only at hpt hok
       by_cases c3 : n = 0
       · subst c3
         rw [if_pos rfl] at hpt
         have HC := Lib.hid hpt
         generalize (l[i]).toNat = x at *
         clear hpt hd hok ho
         go_enter Tryz.func59, Tryz.ntmps59
         go_wp2_with fail
         refine (hone _).mono ?_
         rintro e w2 ⟨rfl, k2⟩
         have hA2 := (k2.block _ (lt_of_heap hA)).trans hA
         have b2 := bA.trans (k2.mono bA.size)
         obtain ⟨q0, q1, q2⟩ := three hA2
         have qf := free_of hA2
         clear hA hA2 k2 bA hone
         go_wp2_with fail
         refine bodyPost_ret (v := partV (err 7)) (by simp [results, Tryz.results59, go_sem, partV, err, *]) rfl ⟨by rw [HC.out], below_set3 b2 (Nat.le_refl _) _ _ _⟩
       · rw [if_neg c3] at hpt
         have hn := hok c3
         have c3' : ((n : Int) == 0) = false := by simp [c3]
         have hsl := fun wx => slM (l := l) (y := (i : Int)) (z := (i : Int) + (n : Int)) (i := i) (j := i + n) rfl (by omega) (by omega) (by omega) wx
         simp only [Nat.add_sub_cancel_left] at hsl
         generalize (l.drop i).take n = T at *
         have HC := Lib.hid hpt
         generalize (l[i]).toNat = x at *
         clear hpt hd hok ho
         go_enter Tryz.func59, Tryz.ntmps59
         go_wp2_with fail
         refine (hone _).mono ?_
         rintro e w2 ⟨rfl, k2⟩
         have hA2 := (k2.block _ (lt_of_heap hA)).trans hA
         have b2 := bA.trans (k2.mono bA.size)
         obtain ⟨q0, q1, q2⟩ := three hA2
         have qf := free_of hA2
         clear hA hA2 k2 bA hone
         go_wp2_with fail
         refine bodyPost_ret (v := partV ⟨T, n, 0⟩) (by simp [results, Tryz.results59, go_sem, partV, *]) rfl ⟨by rw [HC.out], below_set3 b2 (Nat.le_refl _) _ _ _⟩
 · have hlt' : decide (l.length ≤ i) = true := by simp; omega
   have hd : l.drop i = [] := List.drop_eq_nil_of_le (by omega)
   have hpt : part (l.drop i) = err 2 := by rw [hd]; rfl
   have HC := Lib.hid hpt
   clear hd hpt hA bA
   go_enter Tryz.func59, Tryz.ntmps59
   go_wp2_with fail
   refine bodyPost_ret (v := partV (err 2)) (by simp [results, Tryz.results59, go_sem, partV, err, *]) rfl ⟨by rw [HC.out], (Below.refl _ w).alloc (Nat.le_refl _) _⟩
end Go.Proofs.YtlfbnfphocpgeaaGreatDoor.Quo
