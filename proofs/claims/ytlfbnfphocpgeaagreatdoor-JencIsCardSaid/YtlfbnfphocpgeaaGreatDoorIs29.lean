/- A part of what is_holds leans on (its texts, put together). Nothing is claimed here. -/
import Derived.Test.YtlfbnfphocpgeaaGreatDoorShelf
import Derived.Test.YtlfbnfphocpgeaaGreatDoorIs6
namespace Go.Proofs.YtlfbnfphocpgeaaGreatDoor.Num
open Go.RowKit Kit
set_option maxRecDepth 100000 in
theorem run_any {w : World} {l : List UInt8} {i : Nat} (hl : l.length < 1000000000) (hi : i ≤ l.length) :
   Calls Tryz.prog 86 #[.string (txt l), .int .i64 i] w fun e w' => e = .returned (.int .i64 (run l i)) ∧ w' = w := by
 go_enter Tryz.func86, Tryz.ntmps86
 go_wp2_with fail
 go_loopw [1] (fun j wr => ∃ k : Nat, j = .int .i64 k ∧ k ≤ l.length ∧ run l i = run l k ∧ wr = w) (fun j _ => l.length - (intOf j).toNat)
 case atStart => exact ⟨i, rfl, hi, rfl, rfl⟩
 case round =>
   obtain ⟨k, rfl, hk, hr, rfl⟩ := hrel
   have hd := digit_any (w := wr) (l := l) (i := k) hl
   by_cases h : DigAt l k
   · rw [decide_eq_true h] at hd
     rw [run_on h] at hr
     have hlt := digAt_lt h
     have H1 := Lib.hid hr
     clear hr h
     go_wp2_with fail
     refine hd.mono ?_
     rintro e w1 ⟨rfl, rfl⟩
     go_wp2_with fail
     go_roundw
     case rel => exact ⟨k + 1, by go_num, by omega, H1.out, by first | trivial | rfl⟩
     case measure => simp [intOf]; omega
   · rw [decide_eq_false h] at hd
     rw [run_stop h] at hr
     have H1 := Lib.hid hr
     clear hr h
     go_wp2_with fail
     refine hd.mono ?_
     rintro e w1 ⟨rfl, rfl⟩
     go_wp2_with fail
     go_ret
     rw [H1.out]
     exact ⟨rfl, rfl⟩
theorem nb_ne {l : List UInt8} {i x : Nat} (h : nb l i = x) (h0 : x ≠ 0) : i < l.length := by
 by_cases hl : i < l.length
 · exact hl
 · rw [nb_past (by omega)] at h
   omega
theorem intEnd_le {l : List UInt8} {i : Nat} (h : DigAt l i) : intEnd l i ≤ l.length := by
 have := digAt_lt h
 unfold intEnd
 split
 · omega
 · exact run_le (by omega)
theorem fracEnd_le {l : List UInt8} {i : Nat} (h : i ≤ l.length) : fracEnd l i ≤ l.length := by
 unfold fracEnd
 split
 · rename_i hh
   have := digAt_lt hh.2
   exact run_le (by omega)
 · exact h
set_option maxRecDepth 100000 in
set_option maxHeartbeats 1000000 in
theorem scan_any {w : World} {l : List UInt8} (hl : l.length < 1000000000) :
   Calls Tryz.prog 56 #[.string (txt l)] w fun e w' => e = .returned (.int .i64 (scan l)) ∧ w' = w := by
 have hs := txt_size l
 go_enter Tryz.func56, Tryz.ntmps56
 go_upto_region 2 with fail
 go_cut [12] from 5 (fun c wc => (∃ b : Bool, c = .bool b ∧ (b = true ↔ nb l 0 = 45)) ∧ w = wc)
 case first =>
   by_cases h0 : 0 < l.length
   · have h0' : decide (0 < l.length) = true := by simp; omega
     have h1 := idx h0
     rw [show ((0 : Nat) : Int) = 0 from rfl] at h1
     by_cases h2 : nb l 0 = 45
     · rw [h2] at h1
       go_wp2_with fail
       go_meet
       case rel => exact ⟨⟨true, rfl, by simp [h2]⟩, rfl⟩
     · have h2' : ((nb l 0 : Int) == 45) = false := by simp; omega
       generalize hx : nb l 0 = x at *
       go_wp2_with fail
       go_meet
       case rel => exact ⟨⟨false, rfl, by simp [h2]⟩, rfl⟩
   · have h0' : decide (0 < l.length) = false := decide_eq_false h0
     have h2 : ¬ nb l 0 = 45 := fun e => h0 (nb_ne e (by omega))
     go_wp2_with fail
     go_meet
     case rel => exact ⟨⟨false, rfl, by simp [h2]⟩, rfl⟩
 case rest =>
   obtain ⟨⟨b, rfl, hb⟩, rfl⟩ := hcut
   go_upto_if 12 with fail
   go_cut [3] from 5 (fun i wc => i = .int .i64 (neg0 l) ∧ w = wc)
   case first =>
     cases b with
     | true =>
       have hn : neg0 l = 1 := by unfold neg0; rw [if_pos (hb.1 rfl)]
       clear hb
       go_wp2_with fail
       go_meet
       case rel => exact ⟨by rw [hn]; rfl, rfl⟩
     | false =>
       have hn : neg0 l = 0 := by unfold neg0; rw [if_neg (fun e => by have := hb.2 e; cases this)]
       clear hb
       go_wp2_with fail
       go_meet
       case rel => exact ⟨by rw [hn]; rfl, rfl⟩
   case rest =>
     obtain ⟨rfl, rfl⟩ := hcut
     clear hb
     have hn1 : neg0 l ≤ 1 := by unfold neg0; split <;> simp
     have hd := digit_any (w := w) (l := l) (i := neg0 l) hl
     have hsc : scan l = if DigAt l (neg0 l) then expEnd l (fracEnd l (intEnd l (neg0 l))) else 0 := rfl
     obtain ⟨i, hi⟩ : ∃ i, neg0 l = i := ⟨_, rfl⟩
     rw [hi] at hd hsc hn1 ⊢
     by_cases h : DigAt l i
     · rw [decide_eq_true h] at hd
       rw [if_pos h] at hsc
       have hlt := digAt_lt h
       have hie := intEnd_le h
       have h1 := idx hlt
       have HSC := Lib.hid hsc
       have HI := Lib.hid hi
       clear hsc hi
       go_wp2_with fail
       refine hd.mono ?_
       rintro e w1 ⟨rfl, rfl⟩
       clear hd
       go_upto_if 20 with fail
       go_cut [3] from 13 (fun i' wc => i' = .int .i64 (intEnd l i) ∧ w1 = wc)
       case first =>
         by_cases h2 : nb l i = 48
         · have he : intEnd l i = i + 1 := by unfold intEnd; rw [if_pos h2]
           have h2' : ((nb l i : Int) == 48) = true := by simp; omega
           go_wp2_with fail
           go_meet
           case rel => exact ⟨by rw [he]; go_num, rfl⟩
         · have he : intEnd l i = run l i := by unfold intEnd; rw [if_neg h2]
           have h2' : ((nb l i : Int) == 48) = false := by simp; omega
           have hr := run_any (w := w1) (l := l) (i := i) hl (by omega)
           rw [← he] at hr
           go_wp2_with fail
           refine hr.mono ?_
           rintro e w2 ⟨rfl, rfl⟩
           go_wp2_with fail
           go_meet
           case rel => exact ⟨by rw [he], rfl⟩
       case rest =>
         obtain ⟨rfl, rfl⟩ := hcut
         clear h1
         obtain ⟨j, hj⟩ : ∃ j, intEnd l i = j := ⟨_, rfl⟩
         have hsc := HSC.out
         rw [hj] at hsc hie ⊢
         clear HSC
         have HSC := Lib.hid hsc
         have HJ := Lib.hid hj
         clear hsc hj h
         have hfe := fracEnd_le (l := l) (i := j) hie
         go_upto_region 9 with fail
         go_cut [41] from 13 (fun c wc => (∃ b : Bool, c = .bool b ∧ (b = true ↔ (nb l j = 46 ∧ DigAt l (j + 1)))) ∧ w1 = wc)
         case first =>
           by_cases h2 : j < l.length
           · have h2' : (j : Int) < (l.length : Int) := by omega
             have h3 := idx h2
             by_cases h4 : nb l j = 46
             · rw [h4] at h3
               have hd := digit_any (w := w1) (l := l) (i := j + 1) hl
               by_cases h5 : DigAt l (j + 1)
               · rw [decide_eq_true h5] at hd
                 go_wp2_with fail
                 refine hd.mono ?_
                 rintro e w2 ⟨rfl, rfl⟩
                 go_wp2_with fail
                 go_meet
                 case rel => exact ⟨⟨true, rfl, by simp [h4, h5]⟩, rfl⟩
               · rw [decide_eq_false h5] at hd
                 go_wp2_with fail
                 refine hd.mono ?_
                 rintro e w2 ⟨rfl, rfl⟩
                 go_wp2_with fail
                 go_meet
                 case rel => exact ⟨⟨false, rfl, by simp [h5]⟩, rfl⟩
             · have h4' : ((nb l j : Int) == 46) = false := by simp; omega
               generalize hx : nb l j = x at *
               go_wp2_with fail
               go_meet
               case rel => exact ⟨⟨false, rfl, by simp [h4]⟩, rfl⟩
           · have h4 : ¬ nb l j = 46 := fun e => h2 (nb_ne e (by omega))
             have h2' : decide ((j : Int) < (l.length : Int)) = false := by simp; omega
             go_wp2_with fail
             go_meet
             case rel => exact ⟨⟨false, rfl, by simp [h4]⟩, rfl⟩
         case rest =>
           obtain ⟨⟨b, rfl, hb⟩, rfl⟩ := hcut
           go_upto_if 41 with fail
           go_cut [3] from 13 (fun i' wc => i' = .int .i64 (fracEnd l j) ∧ w1 = wc)
           case first =>
             cases b with
             | true =>
               have ht := hb.1 rfl
               have he : fracEnd l j = run l (j + 1) := by unfold fracEnd; rw [if_pos ht]
               have hlt2 := digAt_lt ht.2
               have hr := run_any (w := w1) (l := l) (i := j + 1) hl (by omega)
               rw [← he] at hr
               clear hb ht
               go_wp2_with fail
               refine hr.mono ?_
               rintro e w2 ⟨rfl, rfl⟩
               go_wp2_with fail
               go_meet
               case rel => exact ⟨by rw [he], rfl⟩
             | false =>
               have he : fracEnd l j = j := by unfold fracEnd; rw [if_neg (fun e => by have := hb.2 e; cases this)]
               clear hb
               go_wp2_with fail
               go_meet
               case rel => exact ⟨by rw [he], rfl⟩
           case rest =>
             obtain ⟨rfl, rfl⟩ := hcut
             clear hb
             obtain ⟨k, hk⟩ : ∃ k, fracEnd l j = k := ⟨_, rfl⟩
             have hsc := HSC.out
             rw [hk] at hsc hfe ⊢
             clear HSC
             have HSC := Lib.hid hsc
             have HK := Lib.hid hk
             clear hsc hk
             go_upto_region 11 with fail
             go_cut [61] from 13 (fun c wc => (∃ b : Bool, c = .bool b ∧ (b = true ↔ (nb l k = 101 ∨ nb l k = 69))) ∧ w1 = wc)
             case first =>
               by_cases h2 : k < l.length
               · have h2' : (k : Int) < (l.length : Int) := by omega
                 have h3 := idx h2
                 by_cases h4 : nb l k = 101
                 · rw [h4] at h3
                   go_wp2_with fail
                   go_meet
                   case rel => exact ⟨⟨true, rfl, by simp [h4]⟩, rfl⟩
                 · have h4' : ((nb l k : Int) == 101) = false := by simp; omega
                   by_cases h5 : nb l k = 69
                   · rw [h5] at h3
                     go_wp2_with fail
                     go_meet
                     case rel => exact ⟨⟨true, rfl, by simp [h5]⟩, rfl⟩
                   · have h5' : ((nb l k : Int) == 69) = false := by simp; omega
                     generalize hx : nb l k = x at *
                     go_wp2_with fail
                     go_meet
                     case rel => exact ⟨⟨false, rfl, by simp [h4, h5]⟩, rfl⟩
               · have h4 : ¬ nb l k = 101 := fun e => h2 (nb_ne e (by omega))
                 have h5 : ¬ nb l k = 69 := fun e => h2 (nb_ne e (by omega))
                 have h2' : decide ((k : Int) < (l.length : Int)) = false := by simp; omega
                 go_wp2_with fail
                 go_meet
                 case rel => exact ⟨⟨false, rfl, by simp [h4, h5]⟩, rfl⟩
             case rest =>
               obtain ⟨⟨b, rfl, hb⟩, rfl⟩ := hcut
               cases b with
               | false =>
                 have he : expEnd l k = k := by unfold expEnd; rw [if_neg (fun e => by have := hb.2 e.1; cases this)]
                 have hsc := HSC.out
                 rw [he] at hsc
                 have HS2 := Lib.hid hsc
                 clear hb hsc he
                 go_wp2_with fail
                 go_ret
                 rw [HS2.out]
                 exact ⟨rfl, rfl⟩
               | true =>
                 have hE := hb.1 rfl
                 have hklt : k < l.length := by rcases hE with e | e <;> exact nb_ne e (by omega)
                 have HE := Lib.hid hE
                 clear hb hE
                 go_upto_region 13 with fail
                 go_cut [79] from 64 (fun c wc => (∃ b : Bool, c = .bool b ∧ (b = true ↔ (nb l (k + 1) = 43 ∨ nb l (k + 1) = 45))) ∧ w1 = wc)
                 case first =>
                   have hci : ((k + 1 : Nat) : Int) = (k : Int) + 1 := by omega
                   by_cases h2 : k + 1 < l.length
                   · have h2' : (k : Int) + 1 < (l.length : Int) := by omega
                     have h3 := idx h2
                     rw [hci] at h3
                     clear hci
                     by_cases h4 : nb l (k + 1) = 43
                     · rw [h4] at h3
                       go_wp2_with fail
                       go_meet
                       case rel => exact ⟨⟨true, rfl, by simp [h4]⟩, rfl⟩
                     · have h4' : ((nb l (k + 1) : Int) == 43) = false := by simp; omega
                       by_cases h5 : nb l (k + 1) = 45
                       · rw [h5] at h3
                         go_wp2_with fail
                         go_meet
                         case rel => exact ⟨⟨true, rfl, by simp [h5]⟩, rfl⟩
                       · have h5' : ((nb l (k + 1) : Int) == 45) = false := by simp; omega
                         generalize hx : nb l (k + 1) = x at *
                         go_wp2_with fail
                         go_meet
                         case rel => exact ⟨⟨false, rfl, by simp [h4, h5]⟩, rfl⟩
                   · have h4 : ¬ nb l (k + 1) = 43 := fun e => h2 (nb_ne e (by omega))
                     have h5 : ¬ nb l (k + 1) = 45 := fun e => h2 (nb_ne e (by omega))
                     have h2' : decide ((k : Int) + 1 < (l.length : Int)) = false := by simp; omega
                     clear hci
                     go_wp2_with fail
                     go_meet
                     case rel => exact ⟨⟨false, rfl, by simp [h4, h5]⟩, rfl⟩
                 case rest =>
                   obtain ⟨⟨b, rfl, hb⟩, rfl⟩ := hcut
                   go_upto_if 79 with fail
                   go_cut [4] from 64 (fun i' wc => i' = .int .i64 (signEnd l (k + 1)) ∧ w1 = wc)
                   case first =>
                     cases b with
                     | true =>
                       have he : signEnd l (k + 1) = k + 1 + 1 := by unfold signEnd; rw [if_pos (hb.1 rfl)]
                       clear hb
                       go_wp2_with fail
                       go_meet
                       case rel => exact ⟨by rw [he]; go_num, rfl⟩
                     | false =>
                       have he : signEnd l (k + 1) = k + 1 := by unfold signEnd; rw [if_neg (fun e => by have := hb.2 e; cases this)]
                       clear hb
                       go_wp2_with fail
                       go_meet
                       case rel => exact ⟨by rw [he]; go_num, rfl⟩
                   case rest =>
                     obtain ⟨rfl, rfl⟩ := hcut
                     clear hb
                     have hd := digit_any (w := w1) (l := l) (i := signEnd l (k + 1)) hl
                     obtain ⟨q, hq⟩ : ∃ q, signEnd l (k + 1) = q := ⟨_, rfl⟩
                     rw [hq] at hd ⊢
                     by_cases h5 : DigAt l q
                     · rw [decide_eq_true h5] at hd
                       have hlt5 := digAt_lt h5
                       have hr := run_any (w := w1) (l := l) (i := q) hl (by omega)
                       have he : expEnd l k = run l q := by unfold expEnd; rw [hq, if_pos ⟨HE.out, h5⟩]
                       have hsc := HSC.out
                       rw [he] at hsc
                       have HS2 := Lib.hid hsc
                       clear hq hsc he h5
                       go_wp2_with fail
                       refine hd.mono ?_
                       rintro e w2 ⟨rfl, rfl⟩
                       go_wp2_with fail
                       refine hr.mono ?_
                       rintro e w2 ⟨rfl, rfl⟩
                       go_wp2_with fail
                       go_ret
                       rw [HS2.out]
                       exact ⟨rfl, rfl⟩
                     · rw [decide_eq_false h5] at hd
                       have he : expEnd l k = k := by unfold expEnd; rw [hq, if_neg (fun e => h5 e.2)]
                       have hsc := HSC.out
                       rw [he] at hsc
                       have HS2 := Lib.hid hsc
                       clear hq hsc he h5
                       go_wp2_with fail
                       refine hd.mono ?_
                       rintro e w2 ⟨rfl, rfl⟩
                       go_wp2_with fail
                       go_ret
                       rw [HS2.out]
                       exact ⟨rfl, rfl⟩
     · rw [decide_eq_false h] at hd
       rw [if_neg h] at hsc
       have HSC := Lib.hid hsc
       have HI := Lib.hid hi
       clear hsc hi
       go_wp2_with fail
       refine hd.mono ?_
       rintro e w1 ⟨rfl, rfl⟩
       go_wp2_with fail
       go_ret
       rw [HSC.out]
       exact ⟨rfl, rfl⟩
end Go.Proofs.YtlfbnfphocpgeaaGreatDoor.Num
namespace Go.Proofs.YtlfbnfphocpgeaaGreatDoor.BldN
open Go.RowKit Kit Num
def Bld (B b : Nat) (l : List UInt8) (w : World) : Prop := B ≤ w.heap.size ∧ Lib.IsBuilder 62 5 B b (Lib.byteCells l) w
theorem Bld.new (w : World) : Bld w.heap.size w.heap.size [] (w.alloc (.cells #[.pointer none, .slice none 0 0] 62)) :=
 ⟨by simp, Lib.fresh_isBuilder _ _ _⟩
theorem at_kept {T e : TypeId} {B b : Nat} {p : Value} {bs : List Value} {w w' : World} (h : Lib.BuilderAt T e B b p bs w) (k : Below w.heap.size w w') : Lib.BuilderAt T e B b p bs w' := by
 have hlt := h.lt
 obtain ⟨hB, v, hb, hown, hne⟩ := h
 refine ⟨hB, v, (k.block b hlt).trans hb, hown.kept (row := none) ⟨k.os, k.tape, k.output, k.size, fun i hi _ => k.block i hi⟩ ?_, hne⟩
 cases hv : v.ownBlock with
 | none => exact .inl rfl
 | some g => exact .inr (by simp)
theorem Bld.kept {B b : Nat} {l : List UInt8} {w w' : World} (h : Bld B b l w) (k : Below w.heap.size w w') : Bld B b l w' :=
 ⟨Nat.le_trans h.1 k.size, h.2.elim (fun h => .inl (at_kept h k)) (fun h => .inr (at_kept h k))⟩
theorem cells_app (l m : List UInt8) : Lib.byteCells l ++ Lib.byteCells m = Lib.byteCells (l ++ m) := by simp [Lib.byteCells]
theorem byte_any {B b : Nat} {l : List UInt8} {c : UInt8} {x : Int} {w : World} (h : Bld B b l w) (hl : l.length < 1000000) (hx : x = (c.toNat : Int)) :
   Calls Tryz.prog 107 #[.pointer (some ⟨b, 0, none⟩), .int .u8 x] w fun e w' => e = .returned .nilIface ∧ Bld B b (l ++ [c]) w' ∧ Below B w w' := by
 subst hx
 refine (Tryz.Builder_WriteByte B b (Lib.byteCells l) (c.toNat : Int) w h.2 (by rw [Lib.byteCells_length]; omega) h.1).mono ?_
 rintro e w' ⟨he, hb, k⟩
 refine ⟨he, ⟨Nat.le_trans h.1 k.size, .inr ?_⟩, k⟩
 rw [← cells_app]
 exact hb
theorem str_any {B b : Nat} {l m : List UInt8} {w : World} (h : Bld B b l w) (hl : l.length < 1000000) (hm : m.length < 1000000) :
   Calls Tryz.prog 108 #[.pointer (some ⟨b, 0, none⟩), .string (txt m)] w fun e w' => e = .returned (.tuple #[.int .i64 (m.length : Int), .nilIface]) ∧ Bld B b (l ++ m) w' ∧ Below B w w' := by
 refine (Tryz.Builder_WriteString B b (Lib.byteCells l) (txt m) w h.2 (by rw [Lib.byteCells_length, txt_size]; omega) h.1).mono ?_
 rintro e w' ⟨he, hb, k⟩
 rw [txt_size] at he
 refine ⟨he, ⟨Nat.le_trans h.1 k.size, .inr ?_⟩, k⟩
 rw [← cells_app]
 exact hb
theorem string_any {B b : Nat} {l : List UInt8} {w : World} (h : Bld B b l w) :
   Calls Tryz.prog 30 #[.pointer (some ⟨b, 0, none⟩)] w fun e w' => e = .returned (.string (txt l)) ∧ Below B w w' := Tryz.Builder_String_any B b l w h.2 h.1
end Go.Proofs.YtlfbnfphocpgeaaGreatDoor.BldN
