/- A part of what is_holds leans on (its texts, put together). Nothing is claimed here. -/
import Derived.Test.YtlfbnfphocpgeaaGreatDoorShelf
import Derived.Test.YtlfbnfphocpgeaaGreatDoorIs16
namespace Go.Proofs.YtlfbnfphocpgeaaGreatDoor.Quo
open Go.RowKit Kit Txt Utf
theorem or_low4 (c x : Nat) (hc : c < 1099511627776) (hx : x < 16) : bits .or .i64 ((c : Int) * 16) (x : Int) = ((c * 16 + x : Nat) : Int) := by
 have e1 : (c : Int) * 16 = ((c * 16 : Nat) : Int) := by omega
 rw [e1]
 have h1 : (BitVec.ofInt 64 ((c * 16 : Nat) : Int)).toNat = c * 16 := by
   rw [BitVec.ofInt_natCast, BitVec.toNat_ofNat]; exact Nat.mod_eq_of_lt (by omega)
 have h2 : (BitVec.ofInt 64 (x : Int)).toNat = x := by
   rw [BitVec.ofInt_natCast, BitVec.toNat_ofNat]; exact Nat.mod_eq_of_lt (by omega)
 have h3 : c * 16 ||| x = c * 16 + x := by
   have := Nat.shiftLeft_add_eq_or_of_lt (b := x) (i := 4) (by omega) c
   rw [Nat.shiftLeft_eq] at this
   exact this.symm
 show IntKind.i64.wrap ((BitVec.ofInt 64 ((c * 16 : Nat) : Int) ||| BitVec.ofInt 64 (x : Int)).toNat : Int) = _
 rw [BitVec.toNat_or, h1, h2, h3]
 simp only [IntKind.wrap, IntKind.signed, IntKind.bits]
 simp
 omega
theorem unit_step (k n : Nat) (l : List UInt8) : unitF (k + 1) n l = if digE l = 0 then unitF k (n * 16 + digV l) l.tail else (0, digE l) := by
 cases l with
 | nil => rfl
 | cons c r =>
   rw [show unitF (k + 1) n (c :: r) = (match hexV c with | none => (0, 3) | some d => unitF k (n * 16 + d) r) from rfl, show digE (c :: r) = (match hexV c with | none => 3 | some _ => 0) from rfl, show digV (c :: r) = (hexV c).getD 0 from rfl]
   cases hexV c <;> rfl
theorem digV_lt (l : List UInt8) : digV l < 16 := by
 unfold digV
 cases l with
 | nil => decide
 | cons c r =>
   cases h : hexV c with
   | none => dsimp only; rw [h]; decide
   | some d => dsimp only; rw [h]; have := (hexI_some h).2; simp; omega
set_option maxRecDepth 100000 in
set_option maxHeartbeats 1000000 in
theorem mnumber_any {w : World} {R : Nat} {l : List UInt8} (h : Rdr R l w) :
   Calls Tryz.prog 183 #[rp R] w fun e w' => Takes R w (unit l).2 (.int .i64 ((unit l).1 : Int)) (l.drop 4) e w' := by
 have hd := fun wx rx (hx : Rdr R rx wx) => mdigit_any hx
 unfold rp at *
 go_enter Tryz.func183, Tryz.ntmps183
 go_wp2_with fail
 go_loopw [3, 4] (fun n j wr => ∃ (k m nn : Nat) (rest : List UInt8), k + m = 4 ∧ n = .int .i64 (nn : Int) ∧ j = .int .i64 (k : Int) ∧ Rdr R rest wr ∧ w.grownBy wr (some R) ∧ unitF m nn rest = unit l ∧ rest = l.drop k ∧ nn < 65536 * 16 ^ k) (fun _ j _ => 4 - (intOf j).toNat)
 case atStart => exact ⟨0, 4, 0, l, rfl, rfl, rfl, h, World.grownBy.refl _ _, rfl, rfl, by simp⟩
 case round =>
   obtain ⟨k, m, nn, rest, hkm, rfl, rfl, hR, hg, hu, hrest, hnn⟩ := hrel
   by_cases hlt : k < 4
   · obtain ⟨m', rfl⟩ : ∃ m', m = m' + 1 := ⟨m - 1, by omega⟩
     have hks : (k : Int) < 4 := by omega
     have hp : 65536 * 16 ^ k ≤ 65536 * 16 ^ 3 := Nat.mul_le_mul_left _ (Nat.pow_le_pow_right (by omega) (by omega))
     have ws : IntKind.i64.wrap ((nn : Int) * 16) = (nn : Int) * 16 := by simp only [IntKind.wrap, IntKind.signed, IntKind.bits]; simp; omega
     rw [unit_step] at hu
     have hor := or_low4 nn (digV rest) (by omega) (digV_lt rest)
     have hdig := hd _ _ hR
     by_cases he : digE rest = 0
     · rw [if_pos he] at hu
       have hH := Lib.hid hu
       have hdv := digV_lt rest
       rw [he] at hdig
       generalize digV rest = dv at *
       clear hu he
       go_wp2_with fail
       refine hdig.mono ?_
       rintro e w1 ⟨k1, (⟨-, rfl, h1⟩ | ⟨hk, -⟩)⟩
       case inr => exact absurd rfl hk
       go_wp2_with fail
       go_roundw
       case rel => exact ⟨k + 1, m', nn * 16 + dv, rest.tail, by omega, by go_num, by go_num, h1, grownBy.trans hg k1, hH.out, by rw [hrest, List.tail_drop], by rw [Nat.pow_succ]; omega⟩
       case measure => simp [intOf]; omega
     · rw [if_neg he] at hu
       have hu2 : (unit l).2 = digE rest := by rw [← hu]
       have hH := Lib.hid he
       have hU := Lib.hid hu2
       clear hu he hu2
       go_wp2_with fail
       refine hdig.mono ?_
       rintro e w1 ⟨k1, (⟨hk, -, -⟩ | ⟨hk, rfl⟩)⟩
       · exact absurd hk hH.out
       refine ⟨rfl, ?_⟩
       rw [hU.out]
       exact .no hk (grownBy.trans hg k1)
   · obtain rfl : k = 4 := by omega
     obtain rfl : m = 0 := by omega
     subst hrest
     have hu' : (nn, 0) = unit l := hu
     have hU := Lib.hid hu'
     clear hu' hu
     go_wp2_with fail
     go_ret
     rw [← hU.out]
     exact .mk hR hg
def codeN (l : List UInt8) : Nat := if (unit l).1 < 55296 ∨ 57343 < (unit l).1 then (unit l).1 else 65536 + ((unit l).1 - 55296) * 1024 + ((unit (l.drop 6)).1 - 56320)
theorem follow_want (l : List UInt8) : follow l = if wantE 92 l ≠ 0 then wantE 92 l else wantE 117 l.tail := by
 cases l with
 | nil => rfl
 | cons a r =>
   by_cases ha : a = 92
   · subst ha
     cases r with
     | nil => rfl
     | cons b t =>
       by_cases hb : b = 117
       · subst hb
         rfl
       · show (if b ≠ 117 then 3 else 0) = (if b = 117 then 0 else 3)
         rw [if_pos hb, if_neg hb]
   · have e1 : follow (a :: r) = 3 := if_pos ha
     have e2 : wantE 92 (a :: r) = 3 := if_neg ha
     rw [e1, e2]
     rfl
set_option maxRecDepth 100000 in
set_option maxHeartbeats 2000000 in
theorem mscalar_any {w : World} {R : Nat} {l : List UInt8} (h : Rdr R l w) :
   Calls Tryz.prog 155 #[rp R] w fun e w' => Takes R w (coded l).e (.int .i64 (codeN l : Int)) (l.drop ((coded l).size - 2)) e w' := by
 have h1 := mnumber_any h
 have hn2 := fun wx (hx : Rdr R (l.drop 6) wx) => mnumber_any hx
 have hw1 := fun wx (hx : Rdr R (l.drop 4) wx) => mwant_any (c := 92) (x := 92) hx rfl
 have hw2 := fun wx (hx : Rdr R (l.drop 4).tail wx) => mwant_any (c := 117) (x := 117) hx rfl
 have t4 : (l.drop 4).tail = l.drop 5 := by rw [List.tail_drop]
 have t5 : (l.drop 4).tail.tail = l.drop 6 := by rw [List.tail_drop, List.tail_drop]
 have hlt1 := unit_lt l
 have hlt2 := unit_lt (l.drop 6)
 have hfw := follow_want (l.drop 4)
 have hcod : coded l = if (unit l).2 ≠ 0 then err (unit l).2
   else if 56320 ≤ (unit l).1 ∧ (unit l).1 ≤ 57343 then err 3
   else if (unit l).1 < 55296 ∨ 57343 < (unit l).1 then ⟨enc (unit l).1, 6, 0⟩
   else if follow (l.drop 4) ≠ 0 then err (follow (l.drop 4))
   else if (unit (l.drop 6)).2 ≠ 0 then err (unit (l.drop 6)).2
   else if (unit (l.drop 6)).1 < 56320 ∨ 57343 < (unit (l.drop 6)).1 then err 3
   else ⟨enc (65536 + ((unit l).1 - 55296) * 1024 + ((unit (l.drop 6)).1 - 56320)), 12, 0⟩ := rfl
 have hcn : codeN l = if (unit l).1 < 55296 ∨ 57343 < (unit l).1 then (unit l).1 else 65536 + ((unit l).1 - 55296) * 1024 + ((unit (l.drop 6)).1 - 56320) := rfl
 rw [t5] at hw2
 generalize unit l = u1 at *
 generalize unit (l.drop 6) = u2 at *
 generalize follow (l.drop 4) = fo at *
 obtain ⟨n, e⟩ := u1
 obtain ⟨m, f⟩ := u2
 dsimp only at *
 by_cases c1 : e = 0
 case neg =>
   rw [if_pos c1] at hcod
   have hC := Lib.hid hcod
   clear hcod hcn hn2 hw1 hw2 hlt1 hlt2 hfw t4 t5
   unfold rp at *
   go_enter Tryz.func155, Tryz.ntmps155
   go_wp2_with fail
   refine h1.mono ?_
   rintro en w1 ⟨k1, (⟨hk, -, -⟩ | ⟨hk, rfl⟩)⟩
   · exact absurd hk c1
   refine ⟨rfl, ?_⟩
   rw [hC.out]
   exact .no hk k1
 subst c1
 rw [if_neg (by simp)] at hcod
 by_cases c2 : 56320 ≤ n ∧ n ≤ 57343
 · rw [if_pos c2] at hcod
   have hC := Lib.hid hcod
   have d1 : decide ((n : Int) < 55296) = false := by simp; omega
   have d2 : decide ((57343 : Int) < n) = false := by simp; omega
   have d3 : (56320 : Int) ≤ n := by omega
   clear hcod hcn hn2 hw1 hw2 hlt1 hlt2 hfw t4 t5
   unfold rp at *
   go_enter Tryz.func155, Tryz.ntmps155
   go_wp2_with fail
   refine h1.mono ?_
   rintro en w1 ⟨k1, (⟨-, rfl, k2⟩ | ⟨hk, -⟩)⟩
   case inr => exact absurd rfl hk
   go_wp2_with fail
   refine ⟨rfl, ?_⟩
   rw [hC.out]
   exact .no (Nat.succ_ne_zero 2) k1
 rw [if_neg c2] at hcod
 by_cases c3 : n < 55296 ∨ 57343 < n
 · rw [if_pos c3] at hcod hcn
   have hC := Lib.hid hcod
   have hN := Lib.hid hcn
   clear hcod hcn hn2 hw1 hw2 hlt1 hlt2 hfw t4 t5 c2
   unfold rp at *
   by_cases c4 : n < 55296
   · have d1 : (n : Int) < 55296 := by omega
     clear c3
     go_enter Tryz.func155, Tryz.ntmps155
     go_wp2_with fail
     refine h1.mono ?_
     rintro en w1 ⟨k1, (⟨-, rfl, k2⟩ | ⟨hk, -⟩)⟩
     case inr => exact absurd rfl hk
     go_wp2_with fail
     go_ret
     rw [hC.out, hN.out]
     exact .mk k2 k1
   · have d1 : decide ((n : Int) < 55296) = false := by simp; omega
     have d2 : (57343 : Int) < n := by omega
     clear c3
     go_enter Tryz.func155, Tryz.ntmps155
     go_wp2_with fail
     refine h1.mono ?_
     rintro en w1 ⟨k1, (⟨-, rfl, k2⟩ | ⟨hk, -⟩)⟩
     case inr => exact absurd rfl hk
     go_wp2_with fail
     go_ret
     rw [hC.out, hN.out]
     exact .mk k2 k1
 rw [if_neg c3] at hcod hcn
 have d1 : decide ((n : Int) < 55296) = false := by simp; omega
 have d2 : decide ((57343 : Int) < n) = false := by simp; omega
 have d3 : decide ((56320 : Int) ≤ n) = false := by simp; omega
 have hlo : 55296 ≤ n := by omega
 clear c2 c3
 by_cases c4 : wantE 92 (l.drop 4) = 0
 case neg =>
   rw [if_pos c4] at hfw
   rw [if_pos (by rw [hfw]; exact c4)] at hcod
   rw [hfw] at hcod
   have hC := Lib.hid hcod
   have h4 := Lib.hid c4
   clear hcod hcn hn2 hw2 hlt1 hlt2 hfw t4 t5 c4
   unfold rp at *
   go_enter Tryz.func155, Tryz.ntmps155
   go_wp2_with fail
   refine h1.mono ?_
   rintro en w1 ⟨k1, (⟨-, rfl, k2⟩ | ⟨hk, -⟩)⟩
   case inr => exact absurd rfl hk
   go_wp2_with fail
   refine (hw1 _ k2).mono ?_
   rintro en w2 ⟨k3, (⟨hk, -, -⟩ | ⟨hk, rfl⟩)⟩
   · exact absurd hk h4.out
   refine ⟨rfl, ?_⟩
   rw [hC.out]
   exact .no hk (grownBy.trans k1 k3)
 rw [if_neg (by simp [c4])] at hfw
 rw [c4] at hw1
 clear c4
 by_cases c5 : wantE 117 (l.drop 4).tail = 0
 case neg =>
   rw [if_pos (by rw [hfw]; exact c5)] at hcod
   rw [hfw] at hcod
   have hC := Lib.hid hcod
   have h5 := Lib.hid c5
   clear hcod hcn hn2 hlt1 hlt2 hfw t4 t5 c5
   unfold rp at *
   go_enter Tryz.func155, Tryz.ntmps155
   go_wp2_with fail
   refine h1.mono ?_
   rintro en w1 ⟨k1, (⟨-, rfl, k2⟩ | ⟨hk, -⟩)⟩
   case inr => exact absurd rfl hk
   go_wp2_with fail
   refine (hw1 _ k2).mono ?_
   rintro en w2 ⟨k3, (⟨-, rfl, k4⟩ | ⟨hk, -⟩)⟩
   case inr => exact absurd rfl hk
   go_wp2_with fail
   refine (hw2 _ k4).mono ?_
   rintro en w3 ⟨k5, (⟨hk, -, -⟩ | ⟨hk, rfl⟩)⟩
   · exact absurd hk h5.out
   refine ⟨rfl, ?_⟩
   rw [hC.out]
   exact .no hk (grownBy.trans (grownBy.trans k1 k3) k5)
 rw [c5] at hw2 hfw
 rw [hfw, if_neg (by simp)] at hcod
 clear c5 hfw t4 t5
 by_cases c6 : f = 0
 case neg =>
   rw [if_pos c6] at hcod
   have hC := Lib.hid hcod
   clear hcod hcn hlt1 hlt2
   unfold rp at *
   go_enter Tryz.func155, Tryz.ntmps155
   go_wp2_with fail
   refine h1.mono ?_
   rintro en w1 ⟨k1, (⟨-, rfl, k2⟩ | ⟨hk, -⟩)⟩
   case inr => exact absurd rfl hk
   go_wp2_with fail
   refine (hw1 _ k2).mono ?_
   rintro en w2 ⟨k3, (⟨-, rfl, k4⟩ | ⟨hk, -⟩)⟩
   case inr => exact absurd rfl hk
   go_wp2_with fail
   refine (hw2 _ k4).mono ?_
   rintro en w3 ⟨k5, (⟨-, rfl, k6⟩ | ⟨hk, -⟩)⟩
   case inr => exact absurd rfl hk
   go_wp2_with fail
   refine (hn2 _ k6).mono ?_
   rintro en w4 ⟨k7, (⟨hk, -, -⟩ | ⟨hk, rfl⟩)⟩
   · exact absurd hk c6
   refine ⟨rfl, ?_⟩
   rw [hC.out]
   exact .no hk (grownBy.trans (grownBy.trans (grownBy.trans k1 k3) k5) k7)
 subst c6
 rw [if_neg (by simp)] at hcod
 by_cases c7 : m < 56320 ∨ 57343 < m
 · rw [if_pos c7] at hcod
   have hC := Lib.hid hcod
   clear hcod hcn hlt1 hlt2
   unfold rp at *
   by_cases c8 : m < 56320
   · have d4 : (m : Int) < 56320 := by omega
     clear c7
     go_enter Tryz.func155, Tryz.ntmps155
     go_wp2_with fail
     refine h1.mono ?_
     rintro en w1 ⟨k1, (⟨-, rfl, k2⟩ | ⟨hk, -⟩)⟩
     case inr => exact absurd rfl hk
     go_wp2_with fail
     refine (hw1 _ k2).mono ?_
     rintro en w2 ⟨k3, (⟨-, rfl, k4⟩ | ⟨hk, -⟩)⟩
     case inr => exact absurd rfl hk
     go_wp2_with fail
     refine (hw2 _ k4).mono ?_
     rintro en w3 ⟨k5, (⟨-, rfl, k6⟩ | ⟨hk, -⟩)⟩
     case inr => exact absurd rfl hk
     go_wp2_with fail
     refine (hn2 _ k6).mono ?_
     rintro en w4 ⟨k7, (⟨-, rfl, k8⟩ | ⟨hk, -⟩)⟩
     case inr => exact absurd rfl hk
     go_wp2_with fail
     refine ⟨rfl, ?_⟩
     rw [hC.out]
     exact .no (Nat.succ_ne_zero 2) (grownBy.trans (grownBy.trans (grownBy.trans k1 k3) k5) k7)
   · have d4 : decide ((m : Int) < 56320) = false := by simp; omega
     have d5 : (57343 : Int) < m := by omega
     clear c7
     go_enter Tryz.func155, Tryz.ntmps155
     go_wp2_with fail
     refine h1.mono ?_
     rintro en w1 ⟨k1, (⟨-, rfl, k2⟩ | ⟨hk, -⟩)⟩
     case inr => exact absurd rfl hk
     go_wp2_with fail
     refine (hw1 _ k2).mono ?_
     rintro en w2 ⟨k3, (⟨-, rfl, k4⟩ | ⟨hk, -⟩)⟩
     case inr => exact absurd rfl hk
     go_wp2_with fail
     refine (hw2 _ k4).mono ?_
     rintro en w3 ⟨k5, (⟨-, rfl, k6⟩ | ⟨hk, -⟩)⟩
     case inr => exact absurd rfl hk
     go_wp2_with fail
     refine (hn2 _ k6).mono ?_
     rintro en w4 ⟨k7, (⟨-, rfl, k8⟩ | ⟨hk, -⟩)⟩
     case inr => exact absurd rfl hk
     go_wp2_with fail
     refine ⟨rfl, ?_⟩
     rw [hC.out]
     exact .no (Nat.succ_ne_zero 2) (grownBy.trans (grownBy.trans (grownBy.trans k1 k3) k5) k7)
 rw [if_neg c7] at hcod
 have d4 : decide ((m : Int) < 56320) = false := by simp; omega
 have d5 : decide ((57343 : Int) < m) = false := by simp; omega
 have e1 : ((n : Int) - 55296) = ((n - 55296 : Nat) : Int) := by omega
 obtain ⟨n', hn'⟩ : ∃ n', n - 55296 = n' := ⟨_, rfl⟩
 have hn'2 : n' < 65536 := by omega
 have wa : IntKind.i64.wrap ((n : Int) - 55296) = (n : Int) - 55296 := by simp only [IntKind.wrap, IntKind.signed, IntKind.bits]; simp; omega
 have wb : IntKind.i64.wrap (((n : Int) - 55296) * 1024) = ((n : Int) - 55296) * 1024 := by simp only [IntKind.wrap, IntKind.signed, IntKind.bits]; simp; omega
 have wc : IntKind.i64.wrap (65536 + ((n : Int) - 55296) * 1024) = 65536 + ((n : Int) - 55296) * 1024 := by simp only [IntKind.wrap, IntKind.signed, IntKind.bits]; simp; omega
 have wd : IntKind.i64.wrap (65536 + ((n : Int) - 55296) * 1024 + (m : Int)) = 65536 + ((n : Int) - 55296) * 1024 + (m : Int) := by simp only [IntKind.wrap, IntKind.signed, IntKind.bits]; simp; omega
 have we : IntKind.i64.wrap (65536 + ((n : Int) - 55296) * 1024 + (m : Int) - 56320) = 65536 + ((n : Int) - 55296) * 1024 + (m : Int) - 56320 := by simp only [IntKind.wrap, IntKind.signed, IntKind.bits]; simp; omega
 have hz : ((codeN l : Nat) : Int) = 65536 + ((n : Int) - 55296) * 1024 + (m : Int) - 56320 := by rw [hcn]; omega
 have hC := Lib.hid hcod
 have hZ := Lib.hid hz
 clear hcod hcn hlt1 hlt2 hz e1 hn' hn'2 c7
 unfold rp at *
 go_enter Tryz.func155, Tryz.ntmps155
 go_wp2_with fail
 refine h1.mono ?_
 rintro en w1 ⟨k1, (⟨-, rfl, k2⟩ | ⟨hk, -⟩)⟩
 case inr => exact absurd rfl hk
 go_wp2_with fail
 refine (hw1 _ k2).mono ?_
 rintro en w2 ⟨k3, (⟨-, rfl, k4⟩ | ⟨hk, -⟩)⟩
 case inr => exact absurd rfl hk
 go_wp2_with fail
 refine (hw2 _ k4).mono ?_
 rintro en w3 ⟨k5, (⟨-, rfl, k6⟩ | ⟨hk, -⟩)⟩
 case inr => exact absurd rfl hk
 go_wp2_with fail
 refine (hn2 _ k6).mono ?_
 rintro en w4 ⟨k7, (⟨-, rfl, k8⟩ | ⟨hk, -⟩)⟩
 case inr => exact absurd rfl hk
 go_wp2_with fail
 go_ret
 rw [hC.out, hZ.out]
 rw [List.drop_drop] at k8
 exact .mk k8 (grownBy.trans (grownBy.trans (grownBy.trans k1 k3) k5) k7)
end Go.Proofs.YtlfbnfphocpgeaaGreatDoor.Quo
namespace Go.Proofs.YtlfbnfphocpgeaaGreatDoor.Quo
open Go.RowKit Kit Txt Utf
def signsL : List UInt8 := [34, 92, 47, 98, 102, 110, 114, 116]
def meansL : List UInt8 := [34, 92, 47, 8, 12, 10, 13, 9]
theorem index_any {w : World} (l : List UInt8) (c : UInt8) : Calls Tryz.prog 69 #[.string (txt l), .int .u8 (c.toNat : Int)] w fun e w' => e = .returned (.int .i64 (Lib.indexByte l c)) ∧ w' = w := by
 have h := Tryz.strings_IndexByte (txt l) (c.toNat : Int) w
 rw [txt_list] at h
 have e : ((c.toNat : Int)).toNat.toUInt8 = c := by
   rw [Int.toNat_natCast]
   exact UInt8.ofNat_toNat
 rwa [e] at h
theorem sign_index : ∀ x : Fin 256, (Lib.indexByte signsL (UInt8.ofNat x.val) = -1 ∧ sign (UInt8.ofNat x.val) = none) ∨
   (∃ i : Fin 8, Lib.indexByte signsL (UInt8.ofNat x.val) = (i.val : Int) ∧ sign (UInt8.ofNat x.val) = meansL[i.val]?) := by decide +kernel
theorem sign_at (d : UInt8) : (Lib.indexByte signsL d = -1 ∧ sign d = none) ∨ (∃ i : Nat, i < 8 ∧ Lib.indexByte signsL d = (i : Int) ∧ sign d = meansL[i]?) := by
 have h := sign_index ⟨d.toNat, d.toNat_lt⟩
 rw [show UInt8.ofNat d.toNat = d from UInt8.ofNat_toNat] at h
 exact h.imp id fun ⟨i, h1, h2⟩ => ⟨i.val, i.isLt, h1, h2⟩
theorem unit_nil_len {l : List UInt8} (h : (coded l).e = 0) : 6 ≤ (coded l).size := by
 obtain ⟨_, _, _, h3, _⟩ := coded_ok h
 exact h3
theorem coded_scalar {l : List UInt8} (h : (coded l).e = 0) : Scalar (codeN l) ∧ (coded l).s = enc (codeN l) := by
 have b1 := unit_lt l
 have b2 := unit_lt (l.drop 6)
 unfold coded at h ⊢
 unfold codeN
 by_cases c1 : (unit l).2 ≠ 0
 · rw [if_pos c1] at h; exact absurd h c1
 rw [if_neg c1] at h ⊢
 by_cases c2 : 56320 ≤ (unit l).1 ∧ (unit l).1 ≤ 57343
 · rw [if_pos c2] at h; cases h
 rw [if_neg c2] at h ⊢
 by_cases c3 : (unit l).1 < 55296 ∨ 57343 < (unit l).1
 · rw [if_pos c3, if_pos c3]
   exact ⟨by unfold Scalar; omega, rfl⟩
 rw [if_neg c3] at h ⊢
 rw [if_neg c3]
 by_cases c4 : follow (l.drop 4) ≠ 0
 · rw [if_pos c4] at h; exact absurd h c4
 rw [if_neg c4] at h ⊢
 by_cases c5 : (unit (l.drop 6)).2 ≠ 0
 · rw [if_pos c5] at h; exact absurd h c5
 rw [if_neg c5] at h ⊢
 by_cases c6 : (unit (l.drop 6)).1 < 56320 ∨ 57343 < (unit (l.drop 6)).1
 · rw [if_pos c6] at h; cases h
 rw [if_neg c6]
 exact ⟨by unfold Scalar; omega, by dsimp only⟩
set_option maxRecDepth 100000 in
theorem means_sl {i : Nat} (hi : i < 8) (wx : World) : ∃ x, meansL[i]? = some x ∧ (Instr.slice 9 (.string (txt meansL)) (some (.int .i64 (i : Int))) (some (.int .i64 ((i : Int) + 1))) none).run Tryz.prog wx = .ok (.string (txt [x])) wx := by
 have h := slM (l := meansL) (y := (i : Int)) (z := (i : Int) + 1) (i := i) (j := i + 1) rfl (by omega) (by omega) (by simp [meansL]; omega) wx
 have h8 : ∀ k : Fin 8, meansL[k.val]? = some (meansL.getD k.val 0) ∧ (meansL.drop k.val).take (k.val + 1 - k.val) = [meansL.getD k.val 0] := by decide +kernel
 obtain ⟨h1, h2⟩ := h8 ⟨i, hi⟩
 dsimp only at h1 h2
 rw [h2] at h
 exact ⟨_, h1, h⟩
set_option maxRecDepth 100000 in
set_option maxHeartbeats 2000000 in
theorem mescaped_any {w : World} {R : Nat} {l : List UInt8} (h : Rdr R l w) :
   Calls Tryz.prog 126 #[rp R] w fun e w' => Takes R w (part (92 :: l)).e (.string (txt (part (92 :: l)).s)) ((92 :: l).drop (part (92 :: l)).size) e w' := by
 cases l with
 | nil =>
   have hn := next_nil h
   unfold rp at *
   go_enter Tryz.func126, Tryz.ntmps126
   go_wp2_with fail
   refine hn.mono ?_
   rintro e w1 ⟨rfl, rfl⟩
   exact ⟨rfl, .no (Nat.succ_ne_zero 1) (World.grownBy.refl _ _)⟩
 | cons d r =>
   have hn := next_cons h
   by_cases hd : d = 117
   · subst hd
     have hp : part (92 :: 117 :: r) = coded r := rfl
     have hdr : (coded r).e = 0 → (92 :: 117 :: r).drop (coded r).size = r.drop ((coded r).size - 2) := fun h => by
       have := unit_nil_len h
       obtain ⟨k, hk⟩ : ∃ k, (coded r).size = k + 2 := ⟨(coded r).size - 2, by omega⟩
       rw [hk]
       rfl
     have hs := fun wx (hx : Rdr R r wx) => mscalar_any hx
     have hcs := coded_scalar (l := r)
     rw [hp]
     generalize coded r = q at *
     obtain ⟨qs, qz, qe⟩ := q
     dsimp only at *
     by_cases he : qe = 0
     · subst he
       obtain ⟨h1, rfl⟩ := hcs rfl
       have hput := fun wx => put_any (w := wx) (c := (codeN r : Int)) (by omega) (by unfold Scalar at h1; omega)
       have hpl : putL (codeN r : Int) = enc (codeN r) := by
         unfold putL
         unfold Scalar at h1
         rw [if_pos (by omega), Int.toNat_natCast]
       have htx : (⟨(putL (codeN r : Int)).toArray⟩ : ByteArray) = txt (enc (codeN r)) := by rw [hpl]; rfl
       rw [htx] at hput
       have hD := Lib.hid (hdr rfl)
       clear hdr hcs hp hpl htx
       unfold rp at *
       go_enter Tryz.func126, Tryz.ntmps126
       go_wp2_with fail
       refine hn.mono ?_
       rintro e w1 ⟨rfl, k1, k2⟩
       go_wp2_with fail
       refine (hs _ k1).mono ?_
       rintro en w2 ⟨k3, (⟨-, rfl, k4⟩ | ⟨hk, -⟩)⟩
       case inr => exact absurd rfl hk
       go_wp2_with fail
       refine (hput _).mono ?_
       rintro en w3 ⟨rfl, rfl⟩
       go_wp2_with fail
       go_ret
       rw [hD.out]
       exact .mk k4 (grownBy.trans k2 k3)
     · clear hdr hcs hp
       unfold rp at *
       go_enter Tryz.func126, Tryz.ntmps126
       go_wp2_with fail
       refine hn.mono ?_
       rintro e w1 ⟨rfl, k1, k2⟩
       go_wp2_with fail
       refine (hs _ k1).mono ?_
       rintro en w2 ⟨k3, (⟨hk, -, -⟩ | ⟨hk, rfl⟩)⟩
       · exact absurd hk he
       exact ⟨rfl, .no hk (grownBy.trans k2 k3)⟩
   · have hp : part (92 :: d :: r) = match sign d with
         | some x => ⟨[x], 2, 0⟩
         | none => if d = 117 then coded r else err 3 := rfl
     have e1 : ((d.toNat : Int) == 117) = false := by
       simp
       intro e
       exact hd (UInt8.toNat_inj.1 (by rw [show (117 : UInt8).toNat = 117 from rfl]; omega))
     have hix := fun wx => index_any (w := wx) signsL d
     have ts : (⟨#[34, 92, 47, 98, 102, 110, 114, 116]⟩ : ByteArray) = txt signsL := rfl
     have tm : (⟨#[34, 92, 47, 8, 12, 10, 13, 9]⟩ : ByteArray) = txt meansL := rfl
     rcases sign_at d with ⟨h1, h2⟩ | ⟨i, hi, h1, h2⟩
     · rw [h2] at hp
       dsimp only at hp
       rw [if_neg hd] at hp
       have hP := Lib.hid hp
       simp only [h1] at hix
       clear hp h1 h2 tm hd
       unfold rp at *
       go_enter Tryz.func126, Tryz.ntmps126
       go_wp2_with fail
       refine hn.mono ?_
       rintro e w1 ⟨rfl, k1, k2⟩
       go_wp2_with fail
       refine (hix _).mono ?_
       rintro e w2 ⟨rfl, rfl⟩
       go_wp2_with fail
       refine ⟨rfl, ?_⟩
       rw [hP.out]
       exact .no (Nat.succ_ne_zero 2) k2
     · have hsl := fun wx => means_sl hi wx
       obtain ⟨x, hx, -⟩ := hsl w
       have hsl' : ∀ wx, (Instr.slice 9 (.string (txt meansL)) (some (.int .i64 (i : Int))) (some (.int .i64 ((i : Int) + 1))) none).run Tryz.prog wx = .ok (.string (txt [x])) wx := fun wx => by
         obtain ⟨y, hy, h⟩ := means_sl hi wx
         rw [hx] at hy
         injection hy with hy
         subst hy
         exact h
       rw [h2, hx] at hp
       dsimp only at hp
       have hP := Lib.hid hp
       simp only [h1] at hix
       have wi : IntKind.i64.wrap ((i : Int) + 1) = (i : Int) + 1 := by simp only [IntKind.wrap, IntKind.signed, IntKind.bits]; simp; omega
       have d0 : decide ((i : Int) < 0) = false := by simp
       clear hp h1 h2 hd hsl hx
       unfold rp at *
       go_enter Tryz.func126, Tryz.ntmps126
       go_wp2_with fail
       refine hn.mono ?_
       rintro e w1 ⟨rfl, k1, k2⟩
       go_wp2_with fail
       refine (hix _).mono ?_
       rintro e w2 ⟨rfl, rfl⟩
       go_wp2_with fail
       go_ret
       rw [hP.out]
       exact .mk k1 k2
end Go.Proofs.YtlfbnfphocpgeaaGreatDoor.Quo
namespace Go.Proofs.YtlfbnfphocpgeaaGreatDoor.Jdec
open Go.RowKit Kit Txt
open Utf (nb)
def blanksL : List UInt8 := [9, 10, 13, 32]
theorem blank_idx : ∀ x : Fin 256, (blank (UInt8.ofNat x.val) = true ∧ 0 ≤ Lib.indexByte blanksL (UInt8.ofNat x.val)) ∨ (blank (UInt8.ofNat x.val) = false ∧ Lib.indexByte blanksL (UInt8.ofNat x.val) < 0) := by decide +kernel
theorem blank_cases (c : UInt8) : (blank c = true ∧ 0 ≤ Lib.indexByte blanksL c) ∨ (blank c = false ∧ Lib.indexByte blanksL c < 0) := by
 have h := blank_idx ⟨c.toNat, c.toNat_lt⟩
 dsimp only at h
 rwa [show UInt8.ofNat c.toNat = c from UInt8.ofNat_toNat] at h
def atN (R : Nat) (wx : World) : Nat := match wx.cell? ⟨R, 1, none⟩ with
 | some (.int _ z) => z.toNat
 | _ => 0
theorem atN_of {R : Nat} {s : List UInt8} {q : Nat} {o : Int} {u : Value} {w : World} (h : Rdr R s q o u w) : atN R w = q := by
 unfold atN
 rw [cell_of h 1]
 rfl
theorem skip_yes {s : List UInt8} {q : Nat} (h : q < s.length) (hb : blank s[q] = true) : skip (s.drop q) = skip (s.drop (q + 1)) := by
 unfold skip
 rw [List.drop_eq_getElem_cons h, List.dropWhile_cons, if_pos hb]
theorem skip_no {s : List UInt8} {q : Nat} (h : q < s.length) (hb : blank s[q] = false) : skip (s.drop q) = s.drop q := by
 unfold skip
 rw [List.drop_eq_getElem_cons h, List.dropWhile_cons, if_neg (by rw [hb]; decide)]
theorem skip_end {s : List UInt8} {q : Nat} (h : s.length ≤ q) : skip (s.drop q) = s.drop q := by
 rw [List.drop_eq_nil_of_le h]
 rfl
theorem skipAt_of {s : List UInt8} {q p : Nat} (hp : p ≤ s.length) (h : skip (s.drop q) = s.drop p) : skipAt s q = p := by
 unfold skipAt
 rw [h, List.length_drop]
 omega
theorem skipAt_id {s : List UInt8} {q : Nat} : q ≤ s.length → q ≤ skipAt s q := fun h => by
 have h2 := skip_le (s.drop q)
 rw [List.length_drop] at h2
 unfold skipAt
 omega
set_option maxRecDepth 100000 in
set_option maxHeartbeats 4000000 in
theorem mskip_any {w : World} {R : Nat} {s : List UInt8} {q : Nat} {o : Int} {u : Value} (hs : s.length < 100000) (hq : q ≤ s.length) (h : Rdr R s q o u w) :
   Calls Tryz.prog 47 #[rp R] w fun e w' => e = .returned (.tuple #[]) ∧ Rdr R s (skipAt s q) o u w' ∧ w.grownBy w' (some R) := by
 have hz := txt_size s
 unfold rp
 go_enter Tryz.func47, Tryz.ntmps47
 go_wp2_with fail
 go_loopw [30] (fun _ wr => ∃ p : Nat, Rdr R s p o u wr ∧ p ≤ s.length ∧ skip (s.drop q) = skip (s.drop p) ∧ w.grownBy wr (some R)) (fun _ wr => s.length - atN R wr)
 case atStart => exact ⟨q, h, hq, rfl, World.grownBy.refl _ _⟩
 case round =>
   clear h
   obtain ⟨p, hp, hle, hk, hg⟩ := hrel
   obtain ⟨c0, c1, c2, c3⟩ := four hp
   have hf := free_of hp 1
   have hm := atN_of hp
   have hwq : IntKind.i64.wrap ((p : Int) + 1) = (p : Int) + 1 := by simp only [IntKind.wrap, IntKind.signed, IntKind.bits]; simp; omega
   by_cases hlt : p < s.length
   · have hlt1 : decide (p < s.length) = true := decide_eq_true hlt
     have hlt' : (p : Int) < (s.length : Int) := by omega
     have hix := idx hlt
     rw [nb_get hlt] at hix
     have hib := fun wx => Quo.index_any (w := wx) blanksL s[p]
     rcases blank_cases s[p] with ⟨hb, hi⟩ | ⟨hb, hi⟩
     · have hk2 := hk.trans (skip_yes hlt hb)
       have hge : decide ((0 : Int) ≤ Lib.indexByte blanksL s[p]) = true := decide_eq_true hi
       generalize Lib.indexByte blanksL s[p] = z at *
       generalize (s[p]).toNat = y at *
       have fin : ∀ wx, Below wr.heap.size wr wx → Rdr R s (p + 1) o u (wx.setCell ⟨R, 1, none⟩ (.int .i64 ((p : Int) + 1))) ∧ w.grownBy (wx.setCell ⟨R, 1, none⟩ (.int .i64 ((p : Int) + 1))) (some R) := fun wx h1 => ⟨(hp.below h1).goes (p + 1), grown_trans (grown_below hg h1) (grown_cell _ _ _ _)⟩
       have HF := Lib.hid fin
       have HM := Lib.hid hm
       have HK := Lib.hid hk2
       have HI := Lib.hid hib
       clear hk hk2 fin hm hp hb hib hg
       unfold blanksL txt at HI
       go_wp2_with fail
       go_quiet ((go_at_call 69; exact Calls.quiet_of_same (HI.out _)))
       go_wp2_with fail
       have b9 := below_drewN (Below.refl wr.heap.size wr) nq
       go_roundw
       case rel => exact ⟨p + 1, (HF.out _ b9).1, by omega, HK.out, (HF.out _ b9).2⟩
       case measure =>
         have := atN_of (HF.out _ b9).1
         have := HM.out
         omega
     · have hk2 := hk.trans (skip_no hlt hb)
       have hge : decide ((0 : Int) ≤ Lib.indexByte blanksL s[p]) = false := decide_eq_false (by omega)
       generalize Lib.indexByte blanksL s[p] = z at *
       generalize (s[p]).toNat = y at *
       have hat := skipAt_of hle hk2
       have fin : ∀ wx, Below wr.heap.size wr wx → Rdr R s (skipAt s q) o u wx ∧ w.grownBy wx (some R) := fun wx h1 => ⟨by rw [hat]; exact hp.below h1, grown_below hg h1⟩
       have HF := Lib.hid fin
       have HI := Lib.hid hib
       clear hk hk2 fin hm hp hb hib hg hat
       unfold blanksL txt at HI
       go_wp2_with fail
       go_quiet ((go_at_call 69; exact Calls.quiet_of_same (HI.out _)))
       go_wp2_with fail
       go_end0
       exact ⟨rfl, HF.out _ (below_drewN (Below.refl wr.heap.size wr) _)⟩
   · have hlt1 : decide (p < s.length) = false := decide_eq_false hlt
     have hk2 := hk.trans (skip_end (by omega))
     have hat := skipAt_of hle hk2
     have fin : ∀ wx, Below wr.heap.size wr wx → Rdr R s (skipAt s q) o u wx ∧ w.grownBy wx (some R) := fun wx h1 => ⟨by rw [hat]; exact hp.below h1, grown_below hg h1⟩
     have HF := Lib.hid fin
     clear hk hk2 fin hm hp hg hat
     go_wp2_with fail
     go_quiet (fail)
     go_wp2_with fail
     go_end0
     exact ⟨rfl, HF.out _ (below_drewN (Below.refl wr.heap.size wr) _)⟩
end Go.Proofs.YtlfbnfphocpgeaaGreatDoor.Jdec
