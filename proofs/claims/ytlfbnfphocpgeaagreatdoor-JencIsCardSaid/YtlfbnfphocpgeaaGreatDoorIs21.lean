/- A part of what is_holds leans on (its texts, put together). Nothing is claimed here. -/
import Derived.Test.YtlfbnfphocpgeaaGreatDoorIs20
namespace Go.Proofs.YtlfbnfphocpgeaaGreatDoor.Jdec
open Go.RowKit Kit Txt
open Utf (nb)
open Tre (Val HoldF zeroV)
def atHead (val : List UInt8 → Got Val) (obj first : Bool) (keys : List (List UInt8)) (kids : List Val) (l : List UInt8) : Got Val :=
 if l.head? = some (close obj) then .ok (made obj keys kids) l.tail
 else if first = true then items val obj keys kids l
 else if l.head? ≠ some 44 then here l
 else items val obj keys kids (skip l.tail)
def opening (obj : Bool) : UInt8 := if obj then 123 else 91
theorem many_head {val : List UInt8 → Got Val} {obj : Bool} {l : List UInt8} (h : l.head? = some (opening obj)) : many val l = atHead val obj true [] [] (skip l.tail) := by
 have e : decide (l.head? = some 123) = obj := by
   rw [h]
   cases obj <;> decide
 unfold many atHead
 rw [e]
 rfl
def part (val : List UInt8 → Got Val) (obj : Bool) (keys : List (List UInt8)) (l : List UInt8) : Got (List (List UInt8) × Val) :=
 match named obj keys l with
 | .no r e => .no r e
 | .ok ks l1 => match val l1 with
   | .no r e => .no r e
   | .ok x r => .ok (ks, x) r
theorem part_good {k : Nat} {val : List UInt8 → Got Val} (hval : ∀ l, Good (Nice k l) l (val l)) (obj : Bool) (keys : List (List UInt8)) (l : List UInt8) : Good (fun p r => r.length < l.length ∧ p.1.length ≤ keys.length + 1) l (part val obj keys l) := by
 unfold part
 have h1 := named_good obj keys l
 cases hn : named obj keys l with
 | no r e =>
   rw [hn] at h1
   exact h1
 | ok ks l1 =>
   rw [hn] at h1
   obtain ⟨s1, z1, z2⟩ := h1
   have hk : ks.length ≤ keys.length + 1 := by
     cases obj with
     | true =>
       obtain ⟨c, rfl, -⟩ : ∃ c, ks = keys ++ [c] ∧ c ∉ keys ∧ Utf.bad c = none := z2
       simp
     | false =>
       have e : ks = keys := z2
       rw [e]
       omega
   have h2 := hval l1
   dsimp only
   cases hv : val l1 with
   | no r e =>
     rw [hv] at h2
     exact ⟨h2.1.trans s1, h2.2⟩
   | ok x r =>
     rw [hv] at h2
     exact ⟨h2.1.trans s1, by have := h2.2.1; show r.length < l.length; omega, hk⟩
theorem items_no (val : List UInt8 → Got Val) (obj : Bool) {keys : List (List UInt8)} {kids : List Val} {l r : List UInt8} {e : Nat} (h : part val obj keys l = .no r e) : items val obj keys kids l = .no r e := by
 unfold part at h
 unfold items
 cases hn : named obj keys l with
 | no r' e' =>
   rw [hn] at h
   injection h with h1 h2
   subst h1; subst h2
   rfl
 | ok ks l1 =>
   rw [hn] at h
   dsimp only at h ⊢
   cases hv : val l1 with
   | no r' e' =>
     rw [hv] at h
     injection h with h1 h2
     subst h1; subst h2
     rfl
   | ok x r' =>
     rw [hv] at h
     cases h
theorem items_ok {k : Nat} {val : List UInt8 → Got Val} (hval : ∀ l, Good (Nice k l) l (val l)) {obj : Bool} {keys ks : List (List UInt8)} {kids : List Val} {l r : List UInt8} {x : Val} (h : part val obj keys l = .ok (ks, x) r) : items val obj keys kids l = atHead val obj false ks (kids ++ [x]) (skip r) := by
 have hg := part_good hval obj keys l
 rw [h] at hg
 have hlt : r.length < l.length := hg.2.1
 unfold part at h
 unfold items
 cases hn : named obj keys l with
 | no r' e' =>
   rw [hn] at h
   cases h
 | ok ks' l1 =>
   rw [hn] at h
   dsimp only at h ⊢
   cases hv : val l1 with
   | no r' e' =>
     rw [hv] at h
     cases h
   | ok x' r' =>
     rw [hv] at h
     injection h with h1 h2
     injection h1 with h3 h4
     subst h2; subst h3; subst h4
     dsimp only
     unfold atHead
     by_cases h1 : (skip r').head? = some (close obj)
     · rw [if_pos h1, if_pos h1]
     · have hf : ¬ (false = true) := by decide
       rw [if_neg h1, if_neg h1, if_neg hf]
       by_cases h2 : (skip r').head? ≠ some 44
       · rw [if_pos h2, if_pos h2]
       · rw [if_neg h2, if_neg h2, dif_pos]
         have z1 := skip_le r'
         have z2 := skip_le (skip r').tail
         have z3 := (tail_suf (skip r')).length_le
         omega
theorem drop_suf {s r : List UInt8} (h : r <:+ s) : s.drop (s.length - r.length) = r := (List.suffix_iff_eq_drop.1 h).symm
theorem suf_items {k : Nat} {val : List UInt8 → Got Val} (hval : ∀ l, Good (Nice k l) l (val l)) {obj : Bool} {keys ks : List (List UInt8)} {s l r : List UInt8} {x : Val} (h : part val obj keys l = .ok (ks, x) r) (hl : l <:+ s) : r <:+ s := by
 have hg := part_good hval obj keys l
 rw [h] at hg
 exact hg.1.trans hl
theorem items_grow {k : Nat} {val : List UInt8 → Got Val} (hval : ∀ l, Good (Nice k l) l (val l)) {obj : Bool} {keys ks : List (List UInt8)} {s r : List UInt8} {x : Val} {p : Nat} (h : part val obj keys (s.drop p) = .ok (ks, x) r) : p < s.length - r.length := by
 have hg := part_good hval obj keys (s.drop p)
 rw [h] at hg
 have h1 : r.length < (s.drop p).length := hg.2.1
 rw [List.length_drop] at h1
 omega
def ReadTold (R : Nat) (s : List UInt8) (u : Value) (o : Int) (St : List (List UInt8) → List Val → World → Prop) (kids : List Val) (g : Got (List (List UInt8) × Val)) (e : Ending) (w' : World) : Prop :=
 match g with
 | .no r n => n ≠ 0 ∧ e = .returned (.int .i64 n) ∧ ∃ o' : Int, Rdr R s (s.length - r.length) o' u w'
 | .ok p r => e = .returned (.int .i64 0) ∧ Rdr R s (s.length - r.length) o u w' ∧ St p.1 (kids ++ [p.2]) w'
theorem read_cases {R : Nat} {s : List UInt8} {u : Value} {o : Int} {St : List (List UInt8) → List Val → World → Prop} {kids : List Val} {k : Nat} {val : List UInt8 → Got Val} {hval : ∀ l, Good (Nice k l) l (val l)} {obj : Bool} {keys : List (List UInt8)} {l : List UInt8} {e : Ending} {w' : World} (h : ReadTold R s u o St kids (part val obj keys l) e w') :
   (∃ (n : Nat) (r : List UInt8) (o' : Int), part val obj keys l = .no r n ∧ n ≠ 0 ∧ e = .returned (.int .i64 n) ∧ Rdr R s (s.length - r.length) o' u w') ∨
   (∃ (ks : List (List UInt8)) (x : Val) (r : List UInt8), part val obj keys l = .ok (ks, x) r ∧ e = .returned (.int .i64 0) ∧ Rdr R s (s.length - r.length) o u w' ∧ ks.length ≤ keys.length + 1 ∧ St ks (kids ++ [x]) w') := by
 have hg := part_good hval obj keys l
 cases hc : part val obj keys l with
 | no r n =>
   rw [hc] at h
   obtain ⟨h1, h2, o', h3⟩ := h
   exact .inl ⟨n, r, o', rfl, h1, h2, h3⟩
 | ok p r =>
   rw [hc] at h hg
   obtain ⟨ks, x⟩ := p
   exact .inr ⟨ks, x, r, rfl, h.1, h.2.1, hg.2.2, h.2.2⟩
def PartsTold (R : Nat) (s : List UInt8) (u : Value) (o : Int) (St : List (List UInt8) → List Val → World → Prop) (X : Nat → Prop) (w : World) (g : Got Val) (obj : Bool) (e : Ending) (w' : World) : Prop :=
 Off X w w' ∧ match g with
 | .no r n => e = .returned (.int .i64 n) ∧ ∃ o' : Int, Rdr R s (s.length - r.length) o' u w'
 | .ok v r => e = .returned (.int .i64 0) ∧ Rdr R s (s.length - r.length) o u w' ∧ ∃ keys kids, v = made obj keys kids ∧ St keys kids w'
set_option maxRecDepth 100000 in
set_option maxHeartbeats 16000000 in
theorem mparts_any {k : Nat} {caps : Array Value} {kk : Nat} {val : List UInt8 → Got Val} (hval : ∀ l, Good (Nice kk l) l (val l)) {obj : Bool} {B R : Nat} {s : List UInt8} {q : Nat} {o x0 : Int} {u : Value} {w : World} (X : Nat → Prop) (XR : X R)
   (St : List (List UInt8) → List Val → World → Prop) (Inv : World → Prop) (hs : s.length < 100000) (ho1 : 0 ≤ o) (ho2 : o ≤ 100) (hBw : B ≤ w.heap.size) (_hRB : R < B)
   (hKI : ∀ a b : World, Inv a → Off X a b → Inv b) (hST : ∀ keys kids (a b : World), St keys kids a → a.grownBy b (some R) → St keys kids b)
   (hread : ∀ (wx : World) (p : Nat) (keys : List (List UInt8)) (kids : List Val), Rdr R s p (o + 1) u wx ∧ Inv wx ∧ B ≤ wx.heap.size ∧ St keys kids wx ∧ p ≤ s.length ∧ kids.length < 100000 ∧ keys.length < 100000 → Calls Tryz.prog k caps wx fun e w' => Off X wx w' ∧ ReadTold R s u (o + 1) St kids (part val obj keys (s.drop p)) e w')
   (hcall : ∀ wx : World, (callFunc k caps).run Tryz.prog wx = .ok (.enter k caps) wx) (h : Rdr R s q o u w) (hq : q < s.length) (hhd : (s.drop q).head? = some (opening obj)) (h0 : St [] [] w) (hI : Inv w) (hx0 : x0 = ((close obj).toNat : Int)) :
   Calls Tryz.prog 61 #[rp R, .int .u8 x0, .func (.func k) #[] caps] w (PartsTold R s u o St X w (many val (s.drop q)) obj) := by
 subst hx0
 have hR := lt_of_heap h
 obtain ⟨c0, c1, c2, c3⟩ := four h
 have hf1 := free_of h 1
 have hf2 := free_of h 2
 have hmany := many_head (val := val) hhd
 rw [List.tail_drop] at hmany
 have hwo : IntKind.i64.wrap (o + 1) = o + 1 := by simp only [IntKind.wrap, IntKind.signed, IntKind.bits]; simp; omega
 have hwo2 : IntKind.i64.wrap (o + 1 - 1) = o := by simp only [IntKind.wrap, IntKind.signed, IntKind.bits]; simp; omega
 have hwq : IntKind.i64.wrap ((q : Int) + 1) = (q : Int) + 1 := by simp only [IntKind.wrap, IntKind.signed, IntKind.bits]; simp; omega
 have r1 : Rdr R s q (o + 1) u (w.setCell ⟨R, 2, none⟩ (.int .i64 (o + 1))) := h.opens _
 have r2 : Rdr R s (q + 1) (o + 1) u ((w.setCell ⟨R, 2, none⟩ (.int .i64 (o + 1))).setCell ⟨R, 1, none⟩ (.int .i64 ((q : Int) + 1))) := r1.goes (q + 1)
 have g2 : w.grownBy ((w.setCell ⟨R, 2, none⟩ (.int .i64 (o + 1))).setCell ⟨R, 1, none⟩ (.int .i64 ((q : Int) + 1))) (some R) := grown_trans (grown_cell _ _ _ _) (grown_cell _ _ _ _)
 have hsk := mskip_any hs (show q + 1 ≤ s.length by omega) r2
 have hd1 := skipAt_drop (l := s) (i := q + 1)
 have hle1 := skipAt_le s (q + 1)
 rw [← hd1] at hmany
 generalize skipAt s (q + 1) = p1 at *
 have HMANY0 := Lib.hid hmany
 have HG2 := Lib.hid g2
 have HSK0 := Lib.hid hsk
 have HRD := Lib.hid hread
 have HKI := Lib.hid hKI
 have HST := Lib.hid hST
 have HI0 := Lib.hid hI
 have HS0 := Lib.hid h0
 have HVAL := Lib.hid hval
 clear hmany g2 hsk hread hKI hST hI h0 r1 r2 h hhd hd1
 have HXR := Lib.hid XR
 clear XR
 unfold rp at HSK0
 unfold rp
 clear hval
 go_enter Tryz.func61, Tryz.ntmps61
 go_wp2_with fail
 refine HSK0.out.mono ?_
 rintro e w1 ⟨rfl, r1, g1⟩
 have g1 := grown_trans HG2.out g1
 have x1 := Off.of_grown g1 (.inl HXR.out)
 have i1 := HKI.out _ _ HI0.out x1
 have s1 := HST.out _ _ _ _ HS0.out g1
 have z1 := Nat.le_trans hBw g1.size
 have HR1 := Lib.hid r1
 have HX1 := Lib.hid x1
 have HI1 := Lib.hid i1
 have HS1 := Lib.hid s1
 have HZ1 := Lib.hid z1
 clear g1 x1 i1 s1 r1 z1 HSK0 c0 c1 c2 c3 hf1 hf2
 go_wp2_with fail
 go_loopw [7] (fun a wr => ∃ (n p : Nat) (keys : List (List UInt8)) (kids : List Val), a = .int .i64 n ∧ n ≤ p ∧ p ≤ s.length ∧ kids.length = n ∧ keys.length ≤ n ∧ many val (s.drop q) = atHead val obj (decide (n = 0)) keys kids (s.drop p) ∧ Rdr R s p (o + 1) u wr ∧ Inv wr ∧ St keys kids wr ∧ Off X w wr ∧ B ≤ wr.heap.size) (fun a _ => s.length - (intOf a).toNat)
 case atStart => exact ⟨0, p1, [], [], rfl, Nat.zero_le _, hle1, rfl, Nat.le_refl _, HMANY0.out, HR1.out, HI1.out, HS1.out, HX1.out, HZ1.out⟩
 case round =>
   clear HMANY0 HR1 HI1 HS1 HX1 HZ1 HI0 HS0 HG2
   obtain ⟨n, p, keys, kids, rfl, hnp, hp, hkn, hkl, hm, hr, hi, hst, hx, hz⟩ := hrel
   have hhas := has_any (c := close obj) hs hr rfl
   have hval := HVAL.out
   by_cases hcl : nextIs (close obj) (s.drop p) = true
   · have hhd : (s.drop p).head? = some (close obj) := by unfold nextIs at hcl; simpa using hcl
     have hpl : p < s.length := by
       by_cases hh : p < s.length
       · exact hh
       · rw [List.drop_eq_nil_of_le (by omega)] at hhd
         cases hhd
     have hm2 : many val (s.drop q) = .ok (made obj keys kids) (s.drop (p + 1)) := by
       rw [hm]
       unfold atHead
       rw [if_pos hhd, List.tail_drop]
     rw [hcl] at hhas
     have hwp : IntKind.i64.wrap ((p : Int) + 1) = (p : Int) + 1 := by simp only [IntKind.wrap, IntKind.signed, IntKind.bits]; simp; omega
     have HM := Lib.hid hm2
     have HH := Lib.hid hhas
     have HR := Lib.hid hr
     have HST2 := Lib.hid hst
     have HX := Lib.hid hx
     clear hm hm2 hhas hcl hhd hst hx hi hval
     unfold rp at HH
     go_wp2_with fail
     refine HH.out.mono ?_
     rintro e w2 ⟨rfl, k2⟩
     have r2 := HR.out.below k2
     obtain ⟨c0, c1, c2, c3⟩ := four r2
     have hR2 := lt_of_heap r2
     have hf1 := free_of r2 1
     have hf2 := free_of r2 2
     have r3 : Rdr R s p o u (w2.setCell ⟨R, 2, none⟩ (.int .i64 o)) := r2.opens _
     have r4 : Rdr R s (p + 1) o u ((w2.setCell ⟨R, 2, none⟩ (.int .i64 o)).setCell ⟨R, 1, none⟩ (.int .i64 ((p : Int) + 1))) := r3.goes (p + 1)
     have g4 : wr.grownBy ((w2.setCell ⟨R, 2, none⟩ (.int .i64 o)).setCell ⟨R, 1, none⟩ (.int .i64 ((p : Int) + 1))) (some R) := grown_trans (grown_trans (below_grown k2) (grown_cell _ _ _ _)) (grown_cell _ _ _ _)
     have fin : PartsTold R s u o St X w (many val (s.drop q)) obj (.returned (.int .i64 0)) ((w2.setCell ⟨R, 2, none⟩ (.int .i64 o)).setCell ⟨R, 1, none⟩ (.int .i64 ((p : Int) + 1))) := by
       refine ⟨HX.out.trans (.of_grown g4 (.inl HXR.out)), ?_⟩
       rw [HM.out]
       exact ⟨rfl, by rw [drop_at (show p + 1 ≤ s.length by omega)]; exact r4, keys, kids, rfl, HST.out _ _ _ _ HST2.out g4⟩
     have HF := Lib.hid fin
     clear fin r2 r3 r4 g4 k2
     go_wp2_with fail
     go_ret
     exact HF.out
   · have hcl : nextIs (close obj) (s.drop p) = false := by simpa using hcl
     have hhd : ¬ (s.drop p).head? = some (close obj) := by unfold nextIs at hcl; simpa using hcl
     rw [hcl] at hhas
     by_cases hn0 : n = 0
     · have d1 : decide (0 < n) = false := by simp [hn0]
       have d2 : decide ((0 : Int) < (n : Int)) = false := by simp [hn0]
       have hm2 : many val (s.drop q) = items val obj keys kids (s.drop p) := by
         rw [hm]
         unfold atHead
         rw [if_neg hhd, if_pos (by simp [hn0])]
       have HMANYI := Lib.hid hm2
       have HH := Lib.hid hhas
       have HR := Lib.hid hr
       have HX := Lib.hid hx
       have HI := Lib.hid hi
       have HS := Lib.hid hst
       have HZ := Lib.hid hz
       have HL := Lib.hid hkn
       have HKL := Lib.hid hkl
       clear hm hm2 hhas hcl hhd hst hx hi hval hz hkn hkl hn0
       unfold rp at HH
       go_wp2_with fail
       refine HH.out.mono ?_
       rintro e w2 ⟨rfl, k2⟩
       have HRX := Lib.hid (HR.out.below k2)
       have HXX := Lib.hid (HX.out.trans (.of_below k2))
       have HIX := Lib.hid (HKI.out _ _ HI.out (.of_below k2))
       have HSX := Lib.hid (HST.out _ _ _ _ HS.out (below_grown k2))
       have HZX := Lib.hid (Nat.le_trans HZ.out k2.size)
       clear k2
       go_wp2_with fail
       refine (HRD.out _ _ _ _ ⟨HRX.out, HIX.out, HZX.out, HSX.out, hp, by have := HL.out; omega, by have := HKL.out; omega⟩).mono ?_
       rintro e wA hT
       obtain ⟨xA, hT⟩ := hT
       have bA := Nat.le_trans HZX.out xA.size
       rcases read_cases (hval := HVAL.out) hT with ⟨n2, r2, o2, hc, hn2, rfl, hr2⟩ | ⟨ks, x, r2, hc, rfl, hr2, hl2, hSt2⟩
       · have hne2 : (((n2 : Nat) : Int) != 0) = true := by simpa using hn2
         have fin : PartsTold R s u o St X w (many val (s.drop q)) obj (.returned (.int .i64 n2)) wA := ⟨HXX.out.trans xA, by rw [HMANYI.out, items_no val obj hc]; exact ⟨rfl, o2, hr2⟩⟩
         have HFIN := Lib.hid fin
         clear fin hT hc xA hr2 hn2
         go_wp2_with fail
         go_ret
         exact HFIN.out
       · have hmany := HMANYI.out.trans (items_ok (kids := kids) HVAL.out hc)
         have hq2 : s.length - r2.length ≤ s.length := Nat.sub_le _ _
         have hdr : s.drop (s.length - r2.length) = r2 := drop_suf (suf_items HVAL.out hc (List.drop_suffix _ _))
         have hsk := mskip_any hs hq2 hr2
         have hd4 := skipAt_drop (l := s) (i := s.length - r2.length)
         have hle4 := skipAt_le s (s.length - r2.length)
         have hge4 := skipAt_id hq2
         rw [hdr] at hd4
         have hgrow : p < s.length - r2.length := items_grow HVAL.out hc
         have hinv := HKI.out _ _ HIX.out xA
         rw [← hd4] at hmany
         generalize skipAt s (s.length - r2.length) = p4 at *
         have hwn : IntKind.i64.wrap ((n : Int) + 1) = (n : Int) + 1 := by simp only [IntKind.wrap, IntKind.signed, IntKind.bits]; simp; omega
         have HM2 := Lib.hid hmany
         have HSK := Lib.hid hsk
         have HI2 := Lib.hid hinv
         have HS2 := Lib.hid hSt2
         have HX2 := Lib.hid (HXX.out.trans xA)
         have HB2 := Lib.hid bA
         have HL2 := Lib.hid hl2
         clear hmany hsk hinv hSt2 hT hc xA hr2 hd4 hdr hl2 bA
         unfold rp at HSK
         go_wp2_with fail
         refine HSK.out.mono ?_
         rintro e wB ⟨rfl, r5, g5⟩
         have x5 := HX2.out.trans (.of_grown g5 (.inl HXR.out))
         have i5 := HKI.out _ _ HI2.out (.of_grown g5 (.inl HXR.out))
         have s5 := HST.out _ _ _ _ HS2.out g5
         have z5 := Nat.le_trans HB2.out g5.size
         have HX5 := Lib.hid x5
         have HR5 := Lib.hid r5
         have HI5 := Lib.hid i5
         have HS5 := Lib.hid s5
         have HZ5 := Lib.hid z5
         clear x5 r5 i5 s5 z5 g5
         go_wp2_with fail
         go_roundw
         case rel => exact ⟨n + 1, p4, ks, kids ++ [x], by go_num, by omega, by omega, by have := HL.out; simp [this], by have := HL2.out; have := HKL.out; omega, by rw [HM2.out]; simp, HR5.out, HI5.out, HS5.out, HX5.out, HZ5.out⟩
         case measure => simp [intOf]; omega
     · have hgt : (0 : Int) < (n : Int) := by omega
       have hwt := fun wx (hr : Rdr R s p (o + 1) u wx) => want_any (w := wx) (c := 44) (x := 44) hs hp hr rfl
       have hm2 : many val (s.drop q) = if (s.drop p).head? ≠ some 44 then here (s.drop p) else items val obj keys kids (skip (s.drop p).tail) := by
         rw [hm]
         unfold atHead
         rw [if_neg hhd, if_neg (by simpa using hn0)]
       by_cases he : wantE 44 (s.drop p) = 0
       · have hpl : p < s.length := by
           by_cases hh : p < s.length
           · exact hh
           · rw [want_past (by omega)] at he
             cases he
         have hh44 : ¬ ((s.drop p).head? ≠ some 44) := fun e => e ((want_head 44 _).1.1 he)
         have hsk := fun wx (hr : Rdr R s (p + 1) (o + 1) u wx) => mskip_any (w := wx) hs (by omega) hr
         have hd3 := skipAt_drop (l := s) (i := p + 1)
         have hle3 := skipAt_le s (p + 1)
         have hge3 := skipAt_id (s := s) (q := p + 1) (by omega)
         rw [if_neg hh44, List.tail_drop, ← hd3] at hm2
         simp only [wantQ, he, if_true] at hwt
         generalize skipAt s (p + 1) = p3 at *
         have HMANYI := Lib.hid hm2
         have HH := Lib.hid hhas
         have HR := Lib.hid hr
         have HX := Lib.hid hx
         have HI := Lib.hid hi
         have HS := Lib.hid hst
         have HZ := Lib.hid hz
         have HL := Lib.hid hkn
         have HKL := Lib.hid hkl
         have HW := Lib.hid hwt
         have HSK3 := Lib.hid hsk
         clear hm hm2 hhas hcl hhd hst hx hi hval hz hkn hkl hn0 hh44 hd3 he hwt hsk
         unfold rp at HH HW HSK3
         go_wp2_with fail
         refine HH.out.mono ?_
         rintro e w2 ⟨rfl, k2⟩
         have HR2 := Lib.hid (HR.out.below k2)
         have HX2 := Lib.hid (HX.out.trans (.of_below k2))
         have HI2 := Lib.hid (HKI.out _ _ HI.out (.of_below k2))
         have HS2 := Lib.hid (HST.out _ _ _ _ HS.out (below_grown k2))
         have HZ2 := Lib.hid (Nat.le_trans HZ.out k2.size)
         clear k2 HX HI HS HZ HR
         go_wp2_with fail
         refine (HW.out _ HR2.out).mono ?_
         rintro e w3 ⟨rfl, r3, g3⟩
         have HR3 := Lib.hid r3
         have HX3 := Lib.hid (HX2.out.trans (.of_grown g3 (.inl HXR.out)))
         have HI3 := Lib.hid (HKI.out _ _ HI2.out (.of_grown g3 (.inl HXR.out)))
         have HS3 := Lib.hid (HST.out _ _ _ _ HS2.out g3)
         have HZ3 := Lib.hid (Nat.le_trans HZ2.out g3.size)
         clear r3 g3 HR2 HX2 HI2 HS2 HZ2
         go_wp2_with fail
         refine (HSK3.out _ HR3.out).mono ?_
         rintro e w4 ⟨rfl, r4, g4⟩
         have HRX := Lib.hid r4
         have HXX := Lib.hid (HX3.out.trans (.of_grown g4 (.inl HXR.out)))
         have HIX := Lib.hid (HKI.out _ _ HI3.out (.of_grown g4 (.inl HXR.out)))
         have HSX := Lib.hid (HST.out _ _ _ _ HS3.out g4)
         have HZX := Lib.hid (Nat.le_trans HZ3.out g4.size)
         clear r4 g4 HR3 HX3 HI3 HS3 HZ3
         go_wp2_with fail
         refine (HRD.out _ _ _ _ ⟨HRX.out, HIX.out, HZX.out, HSX.out, hle3, by have := HL.out; omega, by have := HKL.out; omega⟩).mono ?_
         rintro e wA hT
         obtain ⟨xA, hT⟩ := hT
         have bA := Nat.le_trans HZX.out xA.size
         rcases read_cases (hval := HVAL.out) hT with ⟨n2, r2, o2, hc, hn2, rfl, hr2⟩ | ⟨ks, x, r2, hc, rfl, hr2, hl2, hSt2⟩
         · have hne2 : (((n2 : Nat) : Int) != 0) = true := by simpa using hn2
           have fin : PartsTold R s u o St X w (many val (s.drop q)) obj (.returned (.int .i64 n2)) wA := ⟨HXX.out.trans xA, by rw [HMANYI.out, items_no val obj hc]; exact ⟨rfl, o2, hr2⟩⟩
           have HFIN := Lib.hid fin
           clear fin hT hc xA hr2 hn2
           go_wp2_with fail
           go_ret
           exact HFIN.out
         · have hmany := HMANYI.out.trans (items_ok (kids := kids) HVAL.out hc)
           have hq2 : s.length - r2.length ≤ s.length := Nat.sub_le _ _
           have hdr : s.drop (s.length - r2.length) = r2 := drop_suf (suf_items HVAL.out hc (List.drop_suffix _ _))
           have hsk := mskip_any hs hq2 hr2
           have hd4 := skipAt_drop (l := s) (i := s.length - r2.length)
           have hle4 := skipAt_le s (s.length - r2.length)
           have hge4 := skipAt_id hq2
           rw [hdr] at hd4
           have hgrow : p3 < s.length - r2.length := items_grow HVAL.out hc
           have hinv := HKI.out _ _ HIX.out xA
           rw [← hd4] at hmany
           generalize skipAt s (s.length - r2.length) = p4 at *
           have hwn : IntKind.i64.wrap ((n : Int) + 1) = (n : Int) + 1 := by simp only [IntKind.wrap, IntKind.signed, IntKind.bits]; simp; omega
           have HM2 := Lib.hid hmany
           have HSK := Lib.hid hsk
           have HI2 := Lib.hid hinv
           have HS2 := Lib.hid hSt2
           have HX2 := Lib.hid (HXX.out.trans xA)
           have HB2 := Lib.hid bA
           have HL2 := Lib.hid hl2
           clear hmany hsk hinv hSt2 hT hc xA hr2 hd4 hdr hl2 bA
           unfold rp at HSK
           go_wp2_with fail
           refine HSK.out.mono ?_
           rintro e wB ⟨rfl, r5, g5⟩
           have x5 := HX2.out.trans (.of_grown g5 (.inl HXR.out))
           have i5 := HKI.out _ _ HI2.out (.of_grown g5 (.inl HXR.out))
           have s5 := HST.out _ _ _ _ HS2.out g5
           have z5 := Nat.le_trans HB2.out g5.size
           have HX5 := Lib.hid x5
           have HR5 := Lib.hid r5
           have HI5 := Lib.hid i5
           have HS5 := Lib.hid s5
           have HZ5 := Lib.hid z5
           clear x5 r5 i5 s5 z5 g5
           go_wp2_with fail
           go_roundw
           case rel => exact ⟨n + 1, p4, ks, kids ++ [x], by go_num, by omega, by omega, by have := HL.out; simp [this], by have := HL2.out; have := HKL.out; omega, by rw [HM2.out]; simp, HR5.out, HI5.out, HS5.out, HX5.out, HZ5.out⟩
           case measure => simp [intOf]; omega
       · have hh44 : (s.drop p).head? ≠ some 44 := fun e => he ((want_head 44 _).1.2 e)
         rw [if_pos hh44, (want_head 44 _).2 he] at hm2
         have hne : (((wantE 44 (s.drop p) : Nat) : Int) != 0) = true := by simpa using he
         simp only [wantQ, he, if_false] at hwt
         generalize wantE 44 (s.drop p) = ew at *
         have HM := Lib.hid hm2
         have HH := Lib.hid hhas
         have HR := Lib.hid hr
         have HX := Lib.hid hx
         have HW := Lib.hid hwt
         clear hm hm2 hhas hcl hhd hst hx hi hval hh44 he hwt
         unfold rp at HH HW
         go_wp2_with fail
         refine HH.out.mono ?_
         rintro e w2 ⟨rfl, k2⟩
         have r2 := HR.out.below k2
         have x2 := HX.out.trans (.of_below k2)
         have HR2 := Lib.hid r2
         have HX2 := Lib.hid x2
         clear r2 x2 k2
         go_wp2_with fail
         refine (HW.out _ HR2.out).mono ?_
         rintro e w3 ⟨rfl, r3, g3⟩
         have fin : PartsTold R s u o St X w (many val (s.drop q)) obj (.returned (.int .i64 ew)) w3 := by
           refine ⟨HX2.out.trans (.of_grown g3 (.inl HXR.out)), ?_⟩
           rw [HM.out]
           exact ⟨rfl, o + 1, by rw [drop_at hp]; exact r3⟩
         have HF := Lib.hid fin
         clear fin r3 g3
         go_wp2_with fail
         go_ret
         exact HF.out
end Go.Proofs.YtlfbnfphocpgeaaGreatDoor.Jdec
