/- A part of what is_holds leans on (its texts, put together). Nothing is claimed here. -/
import Derived.Deep.Cut
import Derived.Test.YtlfbnfphocpgeaaGreatDoorIs5
namespace Go.Proofs.YtlfbnfphocpgeaaGreatDoor.Tre
open Go.RowKit Kit Txt
theorem counts_mem : ∀ {vs : List Val} {x : Val}, x ∈ vs → count x ≤ counts vs
 | [], _, h => absurd h List.not_mem_nil
 | v :: r, x, h => by
   rw [counts]
   rcases List.mem_cons.1 h with e | h
   · rw [e]
     omega
   · have := counts_mem h
     omega
theorem counts_len : ∀ vs : List Val, vs.length ≤ counts vs
 | [] => Nat.zero_le _
 | v :: r => by
   rw [counts, List.length_cons]
   have := counts_len r
   have : 1 ≤ count v := by
     obtain ⟨k, b, n, s, ks, vs⟩ := v
     rw [count]
     omega
   omega
theorem count_kids {v : Val} : v.kids.length < count v ∧ ∀ x ∈ v.kids, count x < count v := by
 obtain ⟨k, b, n, s, ks, vs⟩ := v
 rw [count]
 unfold Val.kids
 dsimp only
 have := counts_len vs
 refine ⟨by omega, fun x hx => ?_⟩
 have := counts_mem hx
 omega
theorem counts_perm {a b : List Val} (h : a.Perm b) : counts a = counts b := by
 induction h with
 | nil => rfl
 | cons x _ ih => rw [counts, counts, ih]
 | swap x y l => rw [counts, counts, counts, counts]; omega
 | trans _ _ h1 h2 => exact h1.trans h2
mutual
theorem sort_count : ∀ v : Val, Whole v → count (sort v) = count v
 | ⟨k, i, n, s, ks, vs⟩, h => by
   rw [Whole] at h
   have ih := sorts_count vs h.2
   have ho := h.1
   unfold Own Val.kind Val.keys Val.kids at ho
   dsimp only at ho
   rw [sort_eq]
   unfold Val.kind Val.keys Val.kids
   dsimp only
   by_cases h6 : k = 6
   · have hl := ho.2.2.2.2.2.2.2.2.2.1 h6
     rw [if_pos h6, count, count, counts_perm (rows_kids hl), ih, (rows_keys hl).length_eq]
   · rw [if_neg h6, count, count, ih, ho.2.2.2.2.2.2.1 h6]
theorem sorts_count : ∀ vs : List Val, Wholes vs → counts (sorts vs) = counts vs
 | [], _ => rfl
 | v :: r, h => by
   rw [Wholes] at h
   rw [sorts, counts, counts, sort_count v h.1, sorts_count r h.2]
end
theorem fines_perm {d : Nat} {a b : List Val} (h : a.Perm b) : Fines d a ↔ Fines d b := by
 rw [fines_iff, fines_iff]
 exact ⟨fun k v hv => k v (h.mem_iff.2 hv), fun k v hv => k v (h.mem_iff.1 hv)⟩
mutual
theorem sort_fine : ∀ (v : Val) (d : Nat), Whole v → Fine d v → Fine d (sort v)
 | ⟨k, i, n, s, ks, vs⟩, d, h, hf => by
   rw [Whole] at h
   rw [Fine] at hf
   have ih := sorts_fine vs (d + 1) h.2 hf.2.2.2.2
   have ho := h.1
   unfold Own Val.kind Val.keys Val.kids at ho
   dsimp only at ho
   rw [sort_eq]
   unfold Val.kind Val.is Val.num Val.str Val.keys Val.kids
   dsimp only
   by_cases h6 : k = 6
   · have hl := ho.2.2.2.2.2.2.2.2.2.1 h6
     rw [if_pos h6, Fine]
     exact ⟨hf.1, hf.2.1, hf.2.2.1, fun x hx => hf.2.2.2.1 x ((rows_keys hl).mem_iff.1 hx), (fines_perm (rows_kids hl)).2 ih⟩
   · rw [if_neg h6, Fine]
     exact ⟨hf.1, hf.2.1, hf.2.2.1, fun x hx => absurd hx List.not_mem_nil, ih⟩
theorem sorts_fine : ∀ (vs : List Val) (d : Nat), Wholes vs → Fines d vs → Fines d (sorts vs)
 | [], _, _, _ => by rw [sorts, Fines]; trivial
 | v :: r, d, h, hf => by
   rw [Wholes] at h
   rw [Fines] at hf
   rw [sorts, Fines]
   exact ⟨sort_fine v d h.1 hf.1, sorts_fine r d h.2 hf.2⟩
end
theorem rsort_any : ∀ (v : Val) (w : World) (u : Value), Whole v → count v < 1000000 → HoldV w u v → Calls Tryz.prog 50 #[u] w fun e w' => (∃ y, e = .returned y ∧ HoldF w.heap.size w' y (sort v)) ∧ Below w.heap.size w w' := by
 refine ind1 fun v ih w u hw hc h => ?_
 have hck := count_kids (v := v)
 have hwk := whole_iff.1 hw
 have ih' : ∀ x ∈ v.kids, ∀ (w : World) (u : Value), HoldV w u x → Calls Tryz.prog 50 #[u] w fun e w' => (∃ y, e = .returned y ∧ HoldF w.heap.size w' y (sort x)) ∧ Below w.heap.size w w' :=
   fun x hx w u h => ih x hx w u (hwk.2 x hx) (by have := hck.2 x hx; omega) h
 by_cases h6 : v.kind = 6
 · have ho := hwk.1
   unfold Own at ho
   exact rsort_obj h6 (ho.2.2.2.2.2.2.2.2.2.1 h6) ho.2.2.2.2.2.2.2.2.2.2.2 ih' (by omega) h
 · exact rsort_list h6 ih' (by omega) h
end Go.Proofs.YtlfbnfphocpgeaaGreatDoor.Tre
namespace Go.Proofs.YtlfbnfphocpgeaaGreatDoor.Jenc
open Tre (Val Whole Wholes deep deeps sort sorts count counts)
def klen (ks : List (List UInt8)) : Nat := (ks.map fun k => 6 * k.length + 10).sum
mutual
def siz (c : Nat) : Val → Nat
 | ⟨_, _, n, s, ks, vs⟩ => c + 6 * s.length + n.dig.length + klen ks + sizs c vs
def sizs (c : Nat) : List Val → Nat
 | [] => 0
 | v :: r => siz c v + sizs c r
end
theorem sizs_snoc (c : Nat) : ∀ (a : List Val) (v : Val), sizs c (a ++ [v]) = sizs c a + siz c v
 | [], v => by simp [sizs]
 | x :: a, v => by rw [List.cons_append, sizs, sizs, sizs_snoc c a v, Nat.add_assoc]
theorem sizs_perm (c : Nat) {a b : List Val} (h : a.Perm b) : sizs c a = sizs c b := by
 induction h with
 | nil => rfl
 | cons x _ ih => rw [sizs, sizs, ih]
 | swap x y l => rw [sizs, sizs, sizs, sizs]; omega
 | trans _ _ h1 h2 => exact h1.trans h2
theorem klen_perm {a b : List (List UInt8)} (h : a.Perm b) : klen a = klen b := (h.map _).sum_nat
theorem klen_cons (k : List UInt8) (r : List (List UInt8)) : klen (k :: r) = 6 * k.length + 10 + klen r := by
 unfold klen
 rw [List.map_cons, List.sum_cons]
mutual
theorem siz_sort (c : Nat) : ∀ v : Val, Whole v → siz c (sort v) = siz c v
 | ⟨k, i, n, s, ks, vs⟩, h => by
   rw [Whole] at h
   have ih := sizs_sort c vs h.2
   obtain ⟨l1, l2, a2, a3, a4, a5, a6, hr, hbad, hlen, hkb, hnd⟩ := h.1
   have hlen : k = 6 → ks.length = vs.length := hlen
   rw [Tre.sort_eq]
   unfold Val.kind Val.keys Val.kids Val.is Val.num Val.str
   dsimp only
   by_cases h6 : k = 6
   · rw [if_pos h6, siz, siz, sizs_perm c (Tre.rows_kids (hlen h6)), ih, klen_perm (Tre.rows_keys (hlen h6))]
   · rw [if_neg h6, siz, siz, ih, show ks = [] from a6 h6]
theorem sizs_sort (c : Nat) : ∀ vs : List Val, Wholes vs → sizs c (sorts vs) = sizs c vs
 | [], _ => rfl
 | v :: r, h => by
   rw [Wholes] at h
   rw [sorts, sizs, sizs, siz_sort c v h.1, sizs_sort c r h.2]
end
theorem esc_six : ∀ x : _root_.Fin 256, (Quo.esc (UInt8.ofNat x.val)).length ≤ 6 := by decide +kernel
theorem esc_le (b : UInt8) : (Quo.esc b).length ≤ 6 := by
 have h := esc_six ⟨b.toNat, b.toNat_lt⟩
 simpa only [UInt8.ofNat_toNat] using h
theorem quo_len (s : List UInt8) : (Quo.print s).length ≤ 6 * s.length + 2 := by
 have : (s.flatMap Quo.esc).length ≤ 6 * s.length := by
   induction s with
   | nil => simp
   | cons b r ih =>
     rw [List.flatMap_cons, List.length_append, List.length_cons]
     have := esc_le b
     omega
 unfold Quo.print
 simp
 simp at this
 omega
theorem digits_five {x : Nat} (h : x ≤ 10000) : (Num.digits x).length ≤ 5 := Num.digits_len x 5 (by omega) (by decide)
theorem neg_len (b : Bool) : (Num.negT b).length ≤ 1 := by cases b <;> decide
theorem num_len {n : Num.Dec} (h : Num.Right n) : (Num.print n).length ≤ n.dig.length + 25 := by
 unfold Num.print
 have h1 := neg_len n.neg
 rw [if_neg (by simpa using h)]
 by_cases h0 : n.dig = []
 · rw [if_pos h0, h0]
   decide
 rw [if_neg h0]
 obtain ⟨-, -, -, -, -, e1, e2⟩ := Num.right_head h h0
 have d1 := digits_five (x := n.exp.toNat) (by omega)
 have d2 := digits_five (x := (-n.exp).toNat) (by omega)
 split
 · simp; omega
 split
 · simp; omega
 split
 · simp [Num.noughts_len]; omega
 split
 · simp; omega
 · simp [Num.noughts_len]; omega
mutual
theorem narrow_len : ∀ (v : Val) (d : Nat), Whole v → (prt false d v).length + 1 ≤ siz 30 v
 | ⟨k, i, n, s, ks, vs⟩, d, h => by
   rw [Whole] at h
   obtain ⟨⟨l1, l2, a2, a3, a4, a5, a6, hr, hbad, hlen, hkb, hnd⟩, hw⟩ := h
   have hn : (Num.print n).length ≤ n.dig.length + 25 := num_len hr
   have hq := quo_len s
   have hs := narrows_len vs (d + 1) (decide (k = 6)) true ks hw fun e => hlen (of_decide_eq_true e)
   rw [prt, siz]
   split
   · simp; omega
   split
   · cases i <;> (simp; omega)
   split
   · omega
   split
   · omega
   rw [List.length_cons, List.length_append, List.length_append, brk_false]
   simp
   omega
theorem narrows_len : ∀ (vs : List Val) (d : Nat) (obj first : Bool) (ks : List (List UInt8)), Wholes vs → (obj = true → ks.length = vs.length) → (prts false d obj first ks vs).length ≤ klen ks + sizs 30 vs
 | [], _, _, _, _, _, _ => by rw [prts]; exact Nat.zero_le _
 | v :: r, d, obj, first, ks, h, hl => by
   rw [Wholes] at h
   have h1 := narrow_len v d h.1
   have h2 := narrows_len r d obj false ks.tail h.2 fun e => by have := hl e; rw [List.length_cons] at this; rw [List.length_tail]; omega
   have h3 : (if obj then key false (ks.headD []) else []).length + klen ks.tail ≤ klen ks := by
     cases obj with
     | false =>
       cases ks with
       | nil => simp
       | cons k r => rw [List.tail_cons, klen_cons]; simp
     | true =>
       cases ks with
       | nil => exact absurd (hl rfl) (by simp)
       | cons k r =>
         rw [List.tail_cons, klen_cons]
         have := quo_len k
         show (key false k).length + _ ≤ _
         unfold key
         simp
         omega
   rw [prts, sizs, List.length_append, List.length_append, List.length_append, List.length_append, brk_false]
   have h4 : (if first then [] else [(44 : UInt8)]).length ≤ 1 := by cases first <;> decide
   simp only [List.length_nil]
   omega
end
mutual
theorem pcs_len : ∀ v : Val, (pcs v).length + 3 ≤ 5 * count v
 | ⟨k, i, n, s, ks, vs⟩ => by
   have h1 := pcss_len vs (decide (k = 6)) true ks
   rw [pcs, count]
   by_cases h1 : k = 1
   · rw [if_pos h1]; simp only [List.length_singleton]; omega
   rw [if_neg h1]
   by_cases h2 : k = 2
   · rw [if_pos h2]; simp only [List.length_singleton]; omega
   rw [if_neg h2]
   by_cases h3 : k = 3
   · rw [if_pos h3]; simp only [List.length_singleton]; omega
   rw [if_neg h3]
   by_cases h4 : k = 4
   · rw [if_pos h4]; simp only [List.length_singleton]; omega
   rw [if_neg h4, List.length_cons, List.length_append, List.length_singleton]
   omega
theorem pcss_len : ∀ (vs : List Val) (obj first : Bool) (ks : List (List UInt8)), (pcss obj first ks vs).length ≤ 5 * counts vs
 | [], _, _, _ => by rw [pcss]; exact Nat.zero_le _
 | v :: r, obj, first, ks => by
   have h1 := pcs_len v
   have h2 := pcss_len r obj false ks.tail
   have h3 : (if first then [] else [[(44 : UInt8)]]).length ≤ 1 := by cases first <;> decide
   have h4 : (if obj then [Quo.print (ks.headD []), [58]] else []).length ≤ 2 := by cases obj <;> simp
   rw [pcss, counts, List.length_append, List.length_append, List.length_append]
   omega
end
end Go.Proofs.YtlfbnfphocpgeaaGreatDoor.Jenc
namespace Go.Proofs.YtlfbnfphocpgeaaGreatDoor.Num
open Go.RowKit Kit
def txt (l : List UInt8) : ByteArray := ⟨l.toArray⟩
theorem txt_size (l : List UInt8) : (txt l).size = l.length := by simp [txt, ByteArray.size]
theorem idx {l : List UInt8} {i : Nat} (h : i < l.length) (wx : World) : (Instr.index 9 (.string (txt l)) (.int .i64 (i : Int))).run Tryz.prog wx = .ok (.int .u8 (nb l i : Int)) wx := by
 have hs := txt_size l
 rw [run_index_string wx 9 (txt l) .i64 i Tryz.underlying9, dif_pos ⟨by omega, by omega⟩]
 congr 3
 unfold nb
 rw [List.getD_eq_getElem?_getD, List.getElem?_eq_getElem h]
 rfl
set_option maxRecDepth 100000 in
theorem digit_any {w : World} {l : List UInt8} {i : Nat} (_hl : l.length < 1000000000) :
   Calls Tryz.prog 85 #[.string (txt l), .int .i64 i] w fun e w' => e = .returned (.bool (decide (DigAt l i))) ∧ w' = w := by
 have hs := txt_size l
 by_cases h : i < l.length
 · have h1 := idx h
   have hlt : (i : Int) < (l.length : Int) := by omega
   generalize hx : nb l i = x at *
   have hd : decide (DigAt l i) = decide (48 ≤ x ∧ x ≤ 57) := decide_eq_decide.2 (by unfold DigAt; rw [hx])
   rw [hd]
   generalize (txt l) = s at *
   clear hx hd
   by_cases c1 : 48 ≤ x
   · have c1' : decide ((48 : Int) ≤ (x : Int)) = true := by simp; omega
     by_cases c2 : x ≤ 57
     · have c2' : decide ((x : Int) ≤ 57) = true := by simp; omega
       go_enter Tryz.func85, Tryz.ntmps85
       go_wp2_with fail
       go_ret
       simp [c1, c2]
     · have c2' : decide ((x : Int) ≤ 57) = false := by simp; omega
       go_enter Tryz.func85, Tryz.ntmps85
       go_wp2_with fail
       go_ret
       simp [c1, c2]
   · have c1' : decide ((48 : Int) ≤ (x : Int)) = false := by simp; omega
     go_enter Tryz.func85, Tryz.ntmps85
     go_wp2_with fail
     go_ret
     simp [c1]
 · have hlt : decide ((i : Int) < (l.length : Int)) = false := by simp; omega
   have hd : decide (DigAt l i) = false := by simp; intro e; exact h (digAt_lt e)
   rw [hd]
   go_enter Tryz.func85, Tryz.ntmps85
   go_wp2_with fail
   go_ret
   simp
end Go.Proofs.YtlfbnfphocpgeaaGreatDoor.Num
namespace Go.Proofs.YtlfbnfphocpgeaaGreatDoor.Num
open Go.RowKit Kit
def numV (n : Dec) : Value := .agg #[.bool n.neg, .string (txt n.dig), .int .i64 n.exp]
set_option maxRecDepth 100000 in
set_option maxHeartbeats 1000000 in
theorem right_any {w : World} {n : Dec} (hl : n.dig.length < 1000000000) :
   Calls Tryz.prog 83 #[numV n] w fun e w' => e = .returned (.bool (decide (Right n))) ∧ Below w.heap.size w w' := by
 obtain ⟨ng, l, ex⟩ := n
 simp only [numV]
 have hs := txt_size l
 have b0 : Below w.heap.size w (w.alloc (.cells #[.bool ng, .string (txt l), .int .i64 ex] 25)) := (Below.refl _ w).alloc (Nat.le_refl _) _
 by_cases h0 : l = []
 · subst h0
   have hR : decide (Right ⟨ng, [], ex⟩) = (!ng && decide (ex = 0)) := by unfold Right; cases ng <;> simp
   rw [hR]
   simp only [List.length_nil] at hs
   cases ng with
   | true =>
     go_enter Tryz.func83, Tryz.ntmps83
     go_wp2_with fail
     go_ret
     exact ⟨rfl, b0⟩
   | false =>
     by_cases h1 : ex = 0
     · subst h1
       go_enter Tryz.func83, Tryz.ntmps83
       go_wp2_with fail
       go_ret
       exact ⟨rfl, b0⟩
     · have h1' : (ex == 0) = false := by simp [h1]
       go_enter Tryz.func83, Tryz.ntmps83
       go_wp2_with fail
       go_ret
       exact ⟨by simp, b0⟩
 · have hn : 0 < l.length := by
     cases l with
     | nil => exact absurd rfl h0
     | cons _ _ => simp
   have hRi : Right ⟨ng, l, ex⟩ ↔ (l.length ≤ 1000 ∧ -10000 ≤ ex ∧ ex ≤ 10000 ∧ (∀ c ∈ l, dg c = true) ∧ nb l 0 ≠ 48 ∧ nb l (l.length - 1) ≠ 48) := by
     unfold Right; rw [if_neg h0]
   have hn' : ((l.length : Int) == 0) = false := by simp [h0]
   by_cases hb : l.length ≤ 1000 ∧ -10000 ≤ ex ∧ ex ≤ 10000
   · have c1 : decide ((1000 : Int) < (l.length : Int)) = false := by simp; omega
     have c2 : decide (ex < -10000) = false := by simp; omega
     have c3 : decide ((10000 : Int) < ex) = false := by simp; omega
     go_enter Tryz.func83, Tryz.ntmps83
     go_wp2_with fail
     go_loopw [3] (fun j wr => ∃ k : Nat, j = .int .i64 k ∧ k ≤ l.length ∧ (∀ c ∈ l.take k, dg c = true) ∧ wr = w.alloc (.cells #[.bool ng, .string (txt l), .int .i64 ex] 25)) (fun j _ => l.length - (intOf j).toNat)
     case atStart => exact ⟨0, rfl, Nat.zero_le _, by simp, rfl⟩
     case round =>
       obtain ⟨k, rfl, hk, hall, rfl⟩ := hrel
       by_cases hlt : k < l.length
       · have hlt' : (k : Int) < (l.length : Int) := by omega
         have hd := digit_any (w := w.alloc (.cells #[.bool ng, .string (txt l), .int .i64 ex] 25)) (l := l) (i := k) hl
         by_cases h : DigAt l k
         · rw [decide_eq_true h] at hd
           have hall2 : ∀ c ∈ l.take (k + 1), dg c = true := by
             rw [List.take_succ_eq_append_getElem hlt]
             intro c hc
             rcases List.mem_append.1 hc with hc | hc
             · exact hall c hc
             · rw [List.mem_singleton] at hc
               subst hc
               exact (digAt_dg hlt).1 h
           have HA := Lib.hid hall2
           clear hall hall2 h hRi
           go_wp2_with fail
           refine hd.mono ?_
           rintro e w1 ⟨rfl, rfl⟩
           go_wp2_with fail
           go_roundw
           case rel => exact ⟨k + 1, by go_num, by omega, HA.out, by first | trivial | rfl⟩
           case measure => simp [intOf]; omega
         · rw [decide_eq_false h] at hd
           have hR : decide (Right ⟨ng, l, ex⟩) = false := decide_eq_false (fun e => h ((digAt_dg hlt).2 ((hRi.1 e).2.2.2.1 _ (List.getElem_mem hlt))))
           have HR := Lib.hid hR
           clear hall h hRi hR
           go_wp2_with fail
           refine hd.mono ?_
           rintro e w1 ⟨rfl, rfl⟩
           go_wp2_with fail
           go_ret
           rw [HR.out]
           exact ⟨rfl, b0⟩
       · obtain rfl : k = l.length := by omega
         rw [List.take_length] at hall
         have i1 := idx hn
         rw [show ((0 : Nat) : Int) = 0 from rfl] at i1
         have i2 := idx (l := l) (i := l.length - 1) (by omega)
         have hci : ((l.length - 1 : Nat) : Int) = (l.length : Int) - 1 := by omega
         rw [hci] at i2
         by_cases h1 : nb l 0 = 48
         · have hR : decide (Right ⟨ng, l, ex⟩) = false := decide_eq_false (fun e => (hRi.1 e).2.2.2.2.1 h1)
           have HR := Lib.hid hR
           rw [h1] at i1
           clear hall hRi hR hci i2
           go_wp2_with fail
           go_ret
           rw [HR.out]
           exact ⟨rfl, b0⟩
         · have h1' : ((nb l 0 : Int) != 48) = true := by simp; omega
           by_cases h2 : nb l (l.length - 1) = 48
           · have hR : decide (Right ⟨ng, l, ex⟩) = false := decide_eq_false (fun e => (hRi.1 e).2.2.2.2.2 h2)
             have HR := Lib.hid hR
             rw [h2] at i2
             clear hall hRi hR hci
             go_wp2_with fail
             go_ret
             rw [HR.out]
             exact ⟨rfl, b0⟩
           · have h2' : ((nb l (l.length - 1) : Int) != 48) = true := by simp; omega
             have hR : decide (Right ⟨ng, l, ex⟩) = true := decide_eq_true (hRi.2 ⟨hb.1, hb.2.1, hb.2.2, hall, h1, h2⟩)
             have HR := Lib.hid hR
             generalize nb l (l.length - 1) = y at *
             generalize nb l 0 = x at *
             clear hall hRi hR hci
             go_wp2_with fail
             go_ret
             rw [HR.out]
             exact ⟨rfl, b0⟩
   · have hR : decide (Right ⟨ng, l, ex⟩) = false := decide_eq_false (fun e => hb ⟨(hRi.1 e).1, (hRi.1 e).2.1, (hRi.1 e).2.2.1⟩)
     have HR := Lib.hid hR
     have hc : (1000 : Int) < (l.length : Int) ∨ (decide ((1000 : Int) < (l.length : Int)) = false ∧ ex < -10000) ∨ (decide ((1000 : Int) < (l.length : Int)) = false ∧ decide (ex < -10000) = false ∧ (10000 : Int) < ex) := by
       simp
       omega
     clear hRi hR hb
     rcases hc with c1 | ⟨c1, c2⟩ | ⟨c1, c2, c3⟩
     all_goals
       go_enter Tryz.func83, Tryz.ntmps83
       go_wp2_with fail
       go_ret
       rw [HR.out]
       exact ⟨rfl, b0⟩
theorem one_text (w : World) (x : Int) (m : Nat) (hm : m < 256) (e : x = (m : Int)) : (convert 60 9 (.slice (some ⟨w.heap.size, 0, none⟩) 1 1)).run Tryz.prog (w.alloc (.cells #[.int .u8 x] 5)) = .ok (.string (txt [UInt8.ofNat m])) (w.alloc (.cells #[.int .u8 x] 5)) := by
 subst e
 have hx : Byt.Bs (w.alloc (.cells #[.int .u8 (m : Int)] 5)) (.slice (some ⟨w.heap.size, 0, none⟩) [m].length [m].length) [m] := Byt.bs_lit (World.alloc_heap_new w _) rfl (by simpa using hm)
 exact Byt.convert_text hx
theorem add_txt (a b : List UInt8) : txt a ++ txt b = txt (a ++ b) := by
 apply ByteArray.ext
 simp [txt]
theorem add_fit {a b : List UInt8} (ha : a.length < 1000000000000) (hb : b.length < 1000000000000) : ¬ (9223372036854775807 < (txt a).size + (txt b).size) := by
 have h1 := txt_size a
 have h2 := txt_size b
 omega
theorem one_text_after {W w1 : World} {x : Int} {g : Nat} (k : Below W.heap.size W w1) (h : W.heap[g]? = some (.cells #[.int .u8 x] 5 (0, 0))) (m : Nat) (hm : m < 256) (e : x = (m : Int)) :
   (convert 60 9 (.slice (some ⟨g, 0, none⟩) 1 1)).run Tryz.prog w1 = .ok (.string (txt [UInt8.ofNat m])) w1 := by
 subst e
 have hx : Byt.Bs W (.slice (some ⟨g, 0, none⟩) [m].length [m].length) [m] := Byt.bs_lit h rfl (by simpa using hm)
 exact Byt.convert_text (hx.below k)
theorem one_text_drew (w : World) (x : Int) (m : Nat) (hm : m < 256) (e : x = (m : Int)) : (convert 60 9 (.slice (some ⟨w.heap.size, 0, none⟩) 1 1)).run Tryz.prog (w.alloc (.cells #[.int .u8 x] 5)).drew = .ok (.string (txt [UInt8.ofNat m])) (w.alloc (.cells #[.int .u8 x] 5)).drew :=
 one_text_after (W := w.alloc (.cells #[.int .u8 x] 5)) (below_drewN (Below.refl _ _) 1) (World.alloc_heap_new w _) m hm e
end Go.Proofs.YtlfbnfphocpgeaaGreatDoor.Num
