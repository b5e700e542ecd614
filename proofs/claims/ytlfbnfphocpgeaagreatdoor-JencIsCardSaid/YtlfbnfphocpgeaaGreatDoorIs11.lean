/- A part of what is_holds leans on (its texts, put together). Nothing is claimed here. -/
import Derived.Test.YtlfbnfphocpgeaaGreatDoorShelf
import Derived.Test.YtlfbnfphocpgeaaGreatDoorIs10
namespace Go.Proofs.YtlfbnfphocpgeaaGreatDoor.Num
open Go.RowKit Kit
set_option maxHeartbeats 4000000 in
set_option maxRecDepth 100000 in
theorem rprint_any {w : World} {n : Dec} (hl : n.dig.length < 1000000000) :
   Calls Tryz.prog 70 #[numV n] w fun e w' => e = .returned (.string (txt (print n))) ∧ Below w.heap.size w w' := by
 have hS := box_new w (.bool n.neg) (.string (txt n.dig)) (.int .i64 n.exp)
 have hr := right_any (w := w.alloc (.cells #[.bool n.neg, .string (txt n.dig), .int .i64 n.exp] 25)) (n := n) hl
 have hs := txt_size n.dig
 have hp : print n = if ¬ Right n then []
   else if n.dig = [] then [48]
   else if 20 < n.exp then negT n.neg ++ (n.dig ++ (101 :: digits n.exp.toNat))
   else if n.exp < -20 then negT n.neg ++ (n.dig ++ (101 :: 45 :: digits (-n.exp).toNat))
   else if 0 ≤ n.exp then negT n.neg ++ (n.dig ++ noughts n.exp.toNat)
   else if -n.exp < n.dig.length then negT n.neg ++ (n.dig.take (n.dig.length - (-n.exp).toNat) ++ (46 :: n.dig.drop (n.dig.length - (-n.exp).toNat)))
   else negT n.neg ++ (48 :: 46 :: (noughts ((-n.exp).toNat - n.dig.length) ++ n.dig)) := rfl
 by_cases hR : Right n
 · obtain ⟨e0, e1, e2, -⟩ := right_exp hR
   rw [decide_eq_true hR] at hr
   rw [if_neg (not_not_intro hR)] at hp
   obtain ⟨ng, l, ex⟩ := n
   simp only [numV] at *
   by_cases h0 : l = []
   · subst h0
     rw [if_pos rfl] at hp
     rw [hp]
     simp only [List.length_nil] at hs
     clear hp hR
     go_enter Tryz.func70, Tryz.ntmps70
     obtain ⟨x0, x1, x2, b0⟩ := id hS
     go_wp2_with fail
     refine hr.mono ?_
     rintro e w1 ⟨rfl, k1⟩
     have hS1 := box_step (w := w) hS k1
     clear hr k1 hS x0 x1 x2 b0
     obtain ⟨x0, x1, x2, b1⟩ := id hS1
     go_wp2_with fail
     go_ret
     exact ⟨rfl, b1⟩
   · rw [if_neg h0] at hp
     have hn0 : ((l.length : Int) == 0) = false := by simp [h0]
     have hln := List.length_pos_iff.2 h0
     clear hR
     -- the sign, and the digits behind it
     have hng := negT_len ng
     go_enter Tryz.func70, Tryz.ntmps70
     obtain ⟨x0, x1, x2, b0⟩ := id hS
     go_wp2_with fail
     refine hr.mono ?_
     rintro e w1 ⟨rfl, k1⟩
     have hS1 := box_step (w := w) hS k1
     clear hr k1 hS x0 x1 x2 b0
     obtain ⟨x0, x1, x2, b1⟩ := id hS1
     go_upto_if 13 with fail
     go_cut [3] from 14 (fun s wc => s = .string (txt (negT ng)) ∧ w1 = wc)
     case first =>
       cases ng
       all_goals
         go_wp2_with fail
         go_meet
         case rel => exact ⟨rfl, rfl⟩
     case rest =>
       obtain ⟨rfl, rfl⟩ := hcut
       have hsgl : (negT ng).length ≤ 1 := hng
       generalize negT ng = sg at *
       clear hng hS1
       by_cases c1 : 20 < ex
       · rw [if_pos c1] at hp
         have hD := fun wx => digits_any ex.toNat (by omega) wx
         simp only [Int.toNat_of_nonneg (show 0 ≤ ex by omega)] at hD
         have hDl := digits_len ex.toNat 12 (by omega) (by omega)
         obtain ⟨D, hDe⟩ : ∃ D, digits ex.toNat = D := ⟨_, rfl⟩
         rw [hDe] at hDl hp
         simp only [hDe] at hD
         obtain ⟨f1, g1⟩ := add_lit (a := sg) (b := l) (c := sg ++ l) rfl rfl (by omega) (by omega)
         obtain ⟨A, hA⟩ : ∃ A, sg ++ l = A := ⟨_, rfl⟩
         have hAl := congrArg List.length hA
         rw [List.length_append] at hAl
         rw [hA] at g1
         obtain ⟨f2, g2⟩ := add_lit (a := A) (b := [101]) (s := ⟨#[101]⟩) (c := A ++ [101]) rfl rfl (by omega) (by simp)
         obtain ⟨B, hB⟩ : ∃ B, A ++ [101] = B := ⟨_, rfl⟩
         have hBl := congrArg List.length hB
         rw [List.length_append] at hBl
         rw [hB] at g2
         obtain ⟨f3, g3⟩ := add_lit (a := B) (b := D) (c := print ⟨ng, l, ex⟩) rfl (by rw [hp, ← hB, ← hA]; simp) (by simp at hBl; omega) (by omega)
         have f2b : ¬ (9223372036854775807 < (txt A).size + 1) := by have := txt_size A; omega
         clear hp hA hB hAl hBl hDe h0
         go_upto_region 10 with fail
         clear hs
         go_region_held3 (fun wx => wx.cell? ⟨w.heap.size, 0, none⟩ = some (.bool ng) ∧ wx.cell? ⟨w.heap.size, 1, none⟩ = some (.string (txt l)) ∧ wx.cell? ⟨w.heap.size, 2, none⟩ = some (.int .i64 ex) ∧ Below w.heap.size w wx)
           (first | exact ⟨x0, x1, x2, below_drewN b1 1⟩ | exact ⟨by assumption, by assumption, by assumption, by assumption⟩ | assumption)
           (first | (go_at_call 102; refine (hD _).mono ?_; rintro e wx ⟨rfl, kx⟩; have nS := box_step (w := w) (by assumption) kx; obtain ⟨n0, n1, n2, n3⟩ := nS))
         all_goals
           go_wp2_with fail
           go_ret
           exact ⟨rfl, n3⟩
       · rw [if_neg c1] at hp
         have c1' : decide (20 < ex) = false := by simp; omega
         by_cases c2 : ex < -20
         · rw [if_pos c2] at hp
           have hD := fun wx => digits_any (-ex).toNat (by omega) wx
           simp only [Int.toNat_of_nonneg (show 0 ≤ -ex by omega)] at hD
           have hDl := digits_len (-ex).toNat 12 (by omega) (by omega)
           obtain ⟨D, hDe⟩ : ∃ D, digits (-ex).toNat = D := ⟨_, rfl⟩
           rw [hDe] at hDl hp
           simp only [hDe] at hD
           have hw1 : IntKind.i64.wrap (0 - ex) = -ex := by simp only [IntKind.wrap, IntKind.signed, IntKind.bits]; simp; omega
           have hw2 : IntKind.i64.wrap (-ex) = -ex := by simp only [IntKind.wrap, IntKind.signed, IntKind.bits]; simp; omega
           obtain ⟨f1, g1⟩ := add_lit (a := sg) (b := l) (c := sg ++ l) rfl rfl (by omega) (by omega)
           obtain ⟨A, hA⟩ : ∃ A, sg ++ l = A := ⟨_, rfl⟩
           have hAl := congrArg List.length hA
           rw [List.length_append] at hAl
           rw [hA] at g1
           obtain ⟨f2, g2⟩ := add_lit (a := A) (b := [101, 45]) (s := ⟨#[101, 45]⟩) (c := A ++ [101, 45]) rfl rfl (by omega) (by simp)
           obtain ⟨B, hB⟩ : ∃ B, A ++ [101, 45] = B := ⟨_, rfl⟩
           have hBl := congrArg List.length hB
           rw [List.length_append] at hBl
           rw [hB] at g2
           obtain ⟨f3, g3⟩ := add_lit (a := B) (b := D) (c := print ⟨ng, l, ex⟩) rfl (by rw [hp, ← hB, ← hA]; simp) (by simp at hBl; omega) (by omega)
           have f2b : ¬ (9223372036854775807 < (txt A).size + 2) := by have := txt_size A; omega
           clear hp hA hB hAl hBl hDe h0
           go_upto_region 12 with fail
           clear hs
           go_region_held3 (fun wx => wx.cell? ⟨w.heap.size, 0, none⟩ = some (.bool ng) ∧ wx.cell? ⟨w.heap.size, 1, none⟩ = some (.string (txt l)) ∧ wx.cell? ⟨w.heap.size, 2, none⟩ = some (.int .i64 ex) ∧ Below w.heap.size w wx)
             (first | exact ⟨x0, x1, x2, below_drewN b1 1⟩ | exact ⟨by assumption, by assumption, by assumption, by assumption⟩ | assumption)
             (first | (go_at_call 102; refine (hD _).mono ?_; rintro e wx ⟨rfl, kx⟩; have nS := box_step (w := w) (by assumption) kx; obtain ⟨n0, n1, n2, n3⟩ := nS))
           all_goals
             go_wp2_with fail
             go_ret
             exact ⟨rfl, n3⟩
         · rw [if_neg c2] at hp
           have c2' : decide (ex < -20) = false := by simp; omega
           by_cases c3 : 0 ≤ ex
           · rw [if_pos c3] at hp
             have hD := fun wx => (noughts_any (w := wx) (k := ex.toNat) (by omega)).mono fun e w' (h : _ ∧ _) => (⟨h.1, by rw [h.2]; exact Below.refl _ _⟩ : e = .returned (.string (txt (noughts ex.toNat))) ∧ Below wx.heap.size wx w')
             simp only [Int.toNat_of_nonneg c3] at hD
             have hDl := noughts_len ex.toNat
             obtain ⟨D, hDe⟩ : ∃ D, noughts ex.toNat = D := ⟨_, rfl⟩
             rw [hDe] at hDl hp
             simp only [hDe] at hD
             obtain ⟨f1, g1⟩ := add_lit (a := sg) (b := l) (c := sg ++ l) rfl rfl (by omega) (by omega)
             obtain ⟨A, hA⟩ : ∃ A, sg ++ l = A := ⟨_, rfl⟩
             have hAl := congrArg List.length hA
             rw [List.length_append] at hAl
             rw [hA] at g1
             obtain ⟨f3, g3⟩ := add_lit (a := A) (b := D) (c := print ⟨ng, l, ex⟩) rfl (by rw [hp, ← hA]; simp) (by omega) (by omega)
             clear hp hA hAl hDe h0 hDl
             go_upto_region 14 with fail
             clear hs
             go_region_held3 (fun wx => wx.cell? ⟨w.heap.size, 0, none⟩ = some (.bool ng) ∧ wx.cell? ⟨w.heap.size, 1, none⟩ = some (.string (txt l)) ∧ wx.cell? ⟨w.heap.size, 2, none⟩ = some (.int .i64 ex) ∧ Below w.heap.size w wx)
               (first | exact ⟨x0, x1, x2, below_drewN b1 1⟩ | exact ⟨by assumption, by assumption, by assumption, by assumption⟩ | assumption)
               (first | (go_at_call 103; refine (hD _).mono ?_; rintro e wx ⟨rfl, kx⟩; have nS := box_step (w := w) (by assumption) kx; obtain ⟨n0, n1, n2, n3⟩ := nS))
             all_goals
               go_wp2_with fail
               go_ret
               exact ⟨rfl, n3⟩
           · rw [if_neg c3] at hp
             have c3' : decide (0 ≤ ex) = false := by simp; omega
             have hw1 : IntKind.i64.wrap (0 - ex) = -ex := by simp only [IntKind.wrap, IntKind.signed, IntKind.bits]; simp; omega
             have hw2 : IntKind.i64.wrap (-ex) = -ex := by simp only [IntKind.wrap, IntKind.signed, IntKind.bits]; simp; omega
             by_cases c4 : -ex < l.length
             · rw [if_pos c4] at hp
               obtain ⟨q, hq⟩ : ∃ q, l.length - (-ex).toNat = q := ⟨_, rfl⟩
               rw [hq] at hp
               have hqz : (l.length : Int) + ex = (q : Int) := by omega
               have hw3 : IntKind.i64.wrap ((l.length : Int) + ex) = (q : Int) := by rw [hqz]; simp only [IntKind.wrap, IntKind.signed, IntKind.bits]; simp; omega
               have s1 := fun wx => slH (l := l) (z := (q : Int)) (k := q) rfl (by omega) wx
               have s2 := fun wx => slL (l := l) (z := (q : Int)) (k := q) rfl (by omega) wx
               have l1 : (l.take q).length ≤ 1000 := by rw [List.length_take]; omega
               have l2 : (l.drop q).length ≤ 1000 := by rw [List.length_drop]; omega
               generalize l.take q = T at *
               generalize l.drop q = E at *
               obtain ⟨f1, g1⟩ := add_lit (a := sg) (b := T) (c := sg ++ T) rfl rfl (by omega) (by omega)
               obtain ⟨A, hA⟩ : ∃ A, sg ++ T = A := ⟨_, rfl⟩
               have hAl := congrArg List.length hA
               rw [List.length_append] at hAl
               rw [hA] at g1
               obtain ⟨f2, g2⟩ := add_lit (a := A) (b := [46]) (s := ⟨#[46]⟩) (c := A ++ [46]) rfl rfl (by omega) (by simp)
               obtain ⟨B, hB⟩ : ∃ B, A ++ [46] = B := ⟨_, rfl⟩
               have hBl := congrArg List.length hB
               rw [List.length_append] at hBl
               rw [hB] at g2
               obtain ⟨f3, g3⟩ := add_lit (a := B) (b := E) (c := print ⟨ng, l, ex⟩) rfl (by rw [hp, ← hB, ← hA]; simp) (by simp at hBl; omega) (by omega)
               have f2b : ¬ (9223372036854775807 < (txt A).size + 1) := by have := txt_size A; omega
               have hw4 : IntKind.i64.wrap (q : Int) = (q : Int) := by simp only [IntKind.wrap, IntKind.signed, IntKind.bits]; simp; omega
               clear hp hA hB hAl hBl h0 hq hw3
               go_upto_region 16 with fail
               clear hs
               go_region_held3 (fun wx => wx.cell? ⟨w.heap.size, 0, none⟩ = some (.bool ng) ∧ wx.cell? ⟨w.heap.size, 1, none⟩ = some (.string (txt l)) ∧ wx.cell? ⟨w.heap.size, 2, none⟩ = some (.int .i64 ex) ∧ Below w.heap.size w wx)
                 (first | exact ⟨x0, x1, x2, below_drewN b1 1⟩ | exact ⟨by assumption, by assumption, by assumption, by assumption⟩ | assumption)
                 (fail)
               all_goals
                 go_wp2_with fail
                 go_ret
                 exact ⟨rfl, below_drewN b1 1⟩
             · rw [if_neg c4] at hp
               have c4' : decide (-ex < (l.length : Int)) = false := by simp; omega
               obtain ⟨q, hq⟩ : ∃ q, (-ex).toNat - l.length = q := ⟨_, rfl⟩
               rw [hq] at hp
               have hqz : -ex - (l.length : Int) = (q : Int) := by omega
               have hw3 : IntKind.i64.wrap (-ex - (l.length : Int)) = (q : Int) := by rw [hqz]; simp only [IntKind.wrap, IntKind.signed, IntKind.bits]; simp; omega
               have hD := fun wx => (noughts_any (w := wx) (k := q) (by omega)).mono fun e w' (h : _ ∧ _) => (⟨h.1, by rw [h.2]; exact Below.refl _ _⟩ : e = .returned (.string (txt (noughts q))) ∧ Below wx.heap.size wx w')
               have hDl := noughts_len q
               obtain ⟨D, hDe⟩ : ∃ D, noughts q = D := ⟨_, rfl⟩
               rw [hDe] at hDl hp
               simp only [hDe] at hD
               obtain ⟨f1, g1⟩ := add_lit (a := sg) (b := [48, 46]) (s := ⟨#[48, 46]⟩) (c := sg ++ [48, 46]) rfl rfl (by omega) (by simp)
               obtain ⟨A, hA⟩ : ∃ A, sg ++ [48, 46] = A := ⟨_, rfl⟩
               have hAl := congrArg List.length hA
               rw [List.length_append] at hAl
               simp only [List.length_cons, List.length_nil] at hAl
               rw [hA] at g1
               obtain ⟨f2, g2⟩ := add_lit (a := A) (b := D) (c := A ++ D) rfl rfl (by omega) (by omega)
               obtain ⟨B, hB⟩ : ∃ B, A ++ D = B := ⟨_, rfl⟩
               have hBl := congrArg List.length hB
               rw [List.length_append] at hBl
               rw [hB] at g2
               obtain ⟨f3, g3⟩ := add_lit (a := B) (b := l) (c := print ⟨ng, l, ex⟩) rfl (by rw [hp, ← hB, ← hA]; simp) (by omega) (by omega)
               have f1b : ¬ (9223372036854775807 < (txt sg).size + 2) := by have := txt_size sg; omega
               have hw4 : IntKind.i64.wrap (q : Int) = (q : Int) := by simp only [IntKind.wrap, IntKind.signed, IntKind.bits]; simp; omega
               clear hp hA hB hAl hBl h0 hq hDe hDl hw3
               go_upto_region 17 with fail
               clear hs
               go_region_held3 (fun wx => wx.cell? ⟨w.heap.size, 0, none⟩ = some (.bool ng) ∧ wx.cell? ⟨w.heap.size, 1, none⟩ = some (.string (txt l)) ∧ wx.cell? ⟨w.heap.size, 2, none⟩ = some (.int .i64 ex) ∧ Below w.heap.size w wx)
                 (first | exact ⟨x0, x1, x2, below_drewN b1 1⟩ | exact ⟨by assumption, by assumption, by assumption, by assumption⟩ | assumption)
                 (first | (go_at_call 103; refine (hD _).mono ?_; rintro e wx ⟨rfl, kx⟩; have nS := box_step (w := w) (by assumption) kx; obtain ⟨n0, n1, n2, n3⟩ := nS))
               all_goals
                 go_wp2_with fail
                 go_ret
                 exact ⟨rfl, n3⟩
 · rw [decide_eq_false hR] at hr
   rw [if_pos hR] at hp
   rw [hp]
   simp only [numV] at *
   clear hp hR
   go_enter Tryz.func70, Tryz.ntmps70
   obtain ⟨x0, x1, x2, b0⟩ := id hS
   go_wp2_with fail
   refine hr.mono ?_
   rintro e w1 ⟨rfl, k1⟩
   obtain ⟨x0, x1, x2, b1⟩ := box_step (w := w) hS k1
   go_wp2_with fail
   go_ret
   exact ⟨rfl, b1⟩
end Go.Proofs.YtlfbnfphocpgeaaGreatDoor.Num
namespace Go.Proofs.YtlfbnfphocpgeaaGreatDoor.Tre
open Go.RowKit Kit Txt
open Num (Dec zero)
def Kids (w : World) (a : Option Addr) (c : Nat) (vs : List Val) : Prop := vs.length ≤ c ∧ c ≤ 9223372036854775807 ∧ (vs = [] ∨ ∃ g off, a = some ⟨g, off, none⟩ ∧ g < w.heap.size ∧ Holds w g off vs)
theorem Kids.below {w w' : World} {a : Option Addr} {c : Nat} {vs : List Val} (h : Kids w a c vs) (b : Below w.heap.size w w') : Kids w' a c vs :=
 ⟨h.1, h.2.1, h.2.2.imp id fun ⟨g, off, h1, h2, h3⟩ => ⟨g, off, h1, Nat.lt_of_lt_of_le h2 b.size, Holds.below b vs h2 h3⟩⟩
theorem txt_get (ls : List (List UInt8)) (j : Nat) (h : j < ls.length) : (ls.map txt).getD j ByteArray.empty = txt ls[j] := by
 rw [List.getD_eq_getElem?_getD, List.getElem?_map, List.getElem?_eq_getElem h]
 rfl
theorem txts_inj {a b : List (List UInt8)} (h : a.map txt = b.map txt) : a = b := by
 induction a generalizing b with
 | nil => cases b with
   | nil => rfl
   | cons y b => simp at h
 | cons x a ih =>
   cases b with
   | nil => simp at h
   | cons y b =>
     simp only [List.map_cons, List.cons.injEq] at h
     rw [show x = y by rw [← txt_list x, ← txt_list y, h.1], ih h.2]
theorem teq_any {w : World} {u u' : Value} {ks ks' : List (List UInt8)} (h : Ks w u ks) (h' : Ks w u' ks') : Calls Tryz.prog 147 #[u, u'] w fun e w' => (∃ r : Bool, e = .returned (.bool r) ∧ (r = true ↔ ks = ks')) ∧ Below w.heap.size w w' := by
 obtain ⟨a, c, rfl, hc, hm, hx⟩ := h
 obtain ⟨a', c', rfl, hc', hm', hx'⟩ := h'
 rcases hx with rfl | ⟨g, off, rfl, hg, hx⟩
 · refine (Tryz.slices_Equal_string_empty a a' c ks'.length c' w (by omega)).mono ?_
   rintro e w' ⟨rfl, rfl⟩
   refine ⟨⟨_, rfl, ?_⟩, Below.refl _ _⟩
   rw [decide_eq_true_iff, List.length_eq_zero_iff]
   exact eq_comm
 · by_cases e0 : ks = []
   · subst e0
     refine (Tryz.slices_Equal_string_empty _ a' c ks'.length c' w (by omega)).mono ?_
     rintro e w' ⟨rfl, rfl⟩
     refine ⟨⟨_, rfl, ?_⟩, Below.refl _ _⟩
     rw [decide_eq_true_iff, List.length_eq_zero_iff]
     exact eq_comm
   rcases hx' with rfl | ⟨g', off', rfl, hg', hx'⟩
   · refine (Tryz.slices_Equal_string_lens _ a' ks.length c 0 c' w (fun e => e0 (List.length_eq_zero_iff.1 e))).mono ?_
     rintro e w' ⟨rfl, rfl⟩
     exact ⟨⟨_, rfl, by simp [e0]⟩, Below.refl _ _⟩
   · refine (Tryz.slices_Equal_string g off ks.length c g' off' ks'.length c' (ks.map txt) (ks'.map txt) w (by simp) (by simp) (by omega) (by omega) (fun j hj => ?_) (fun j hj => ?_)).mono ?_
     · have hj' : j < ks.length := by simpa using hj
       rw [hx j _ (List.getElem?_eq_getElem hj'), txt_get ks j hj']
     · have hj' : j < ks'.length := by simpa using hj
       rw [hx' j _ (List.getElem?_eq_getElem hj'), txt_get ks' j hj']
     · rintro e w' ⟨rfl, q, rfl⟩
       refine ⟨⟨_, rfl, ?_⟩, below_drewN (Below.refl _ _) q⟩
       rw [decide_eq_true_iff, List.take_of_length_le (by simp), List.take_of_length_le (by simp)]
       exact ⟨txts_inj, fun h => by rw [h]⟩
set_option maxRecDepth 100000 in
set_option maxHeartbeats 8000000 in
theorem teqf_any {vs vs' : List Val} {w : World} {a a' : Option Addr} {c c' : Nat} (ih : ∀ x ∈ vs, ∀ (y : Val) (w : World) (u v : Value), HoldV w u x → HoldV w v y → Calls Tryz.prog 114 #[u, v] w fun e w' => (∃ r : Bool, e = .returned (.bool r) ∧ (r = true ↔ x = y)) ∧ Below w.heap.size w w')
   (h : Kids w a c vs) (h' : Kids w a' c' vs') : Calls Tryz.prog 148 #[.slice a vs.length c, .slice a' vs'.length c', .func (.func 114) #[] #[]] w fun e w' => (∃ r : Bool, e = .returned (.bool r) ∧ (r = true ↔ vs = vs')) ∧ Below w.heap.size w w' := by
 obtain ⟨hcap, hmax, hv⟩ := h
 obtain ⟨hcap', hmax', hv'⟩ := h'
 by_cases e6 : vs.length = vs'.length
 · rw [← e6]
   have HE := Lib.hid e6
   clear e6 hcap'
   go_enter Tryz.func148, Tryz.ntmps148
   go_wp2_with fail
   go_loopw [17] (fun y wr => ∃ j : Nat, j ≤ vs.length ∧ y = .int .i64 j ∧ vs.take j = vs'.take j ∧ Below w.heap.size w wr) (fun y _ => vs.length - (intOf y).toNat)
   case atStart => exact ⟨0, Nat.zero_le _, rfl, rfl, Below.refl _ _⟩
   case round =>
     obtain ⟨j, hj, rfl, hjt, bB⟩ := hrel
     by_cases hlt : j < vs.length
     · have hlt' : (j : Int) < (vs.length : Int) := by omega
       have hltb : j < vs'.length := by rw [← HE.out]; exact hlt
       rcases hv with rfl | ⟨ga, oa, rfl, hga, hxa⟩
       · exact absurd hlt (Nat.not_lt_zero _)
       rcases hv' with rfl | ⟨gb, ob, rfl, hgb, hxb⟩
       · exact absurd hltb (Nat.not_lt_zero _)
       obtain ⟨cx, hx8, hxx⟩ := Holds.at hxa (List.getElem?_eq_getElem hlt)
       obtain ⟨cy, hy8, hyy⟩ := Holds.at hxb (List.getElem?_eq_getElem hltb)
       have hx8 := hx8.below hga bB
       have hy8 := hy8.below hgb bB
       have hcall := fun wx u v => ih vs[j] (List.getElem_mem hlt) vs'[j] wx u v
       have hsnoc : vs[j] = vs'[j] → vs.take (j + 1) = vs'.take (j + 1) := fun e => by rw [List.take_succ_eq_append_getElem hlt, List.take_succ_eq_append_getElem hltb, hjt, e]
       have hoff : vs[j] ≠ vs'[j] → vs ≠ vs' := fun e h => e (by subst h; rfl)
       generalize vs[j] = x at *
       generalize vs'[j] = y at *
       obtain ⟨k1, b1', n1, s1, ks1, vs1⟩ := x
       obtain ⟨k2, b2', n2, s2, ks2, vs2⟩ := y
       have hxx2 := hxx
       have hyy2 := hyy
       rw [Hold] at hxx2 hyy2
       obtain ⟨uk1, a1, c1, rfl, ⟨p1, d1, rfl, -⟩, -, -, -⟩ := hxx2
       obtain ⟨uk2, a2, c2, rfl, ⟨p2, d2, rfl, -⟩, -, -, -⟩ := hyy2
       obtain ⟨x0, x1, x2, x3, x4, x5, x6, x7⟩ := hx8.cells
       obtain ⟨y0, y1, y2, y3, y4, y5, y6, y7⟩ := hy8.cells
       have wk : IntKind.i64.wrap ((j : Int) + 1) = (j : Int) + 1 := by simp only [IntKind.wrap, IntKind.signed, IntKind.bits]; simp; omega
       have hgl := Nat.lt_of_lt_of_le hga bB.size
       have hgl' := Nat.lt_of_lt_of_le hgb bB.size
       have hA2 := new_of (World.alloc_heap_new wr (.cells #[.int .i64 k1, .bool b1', .bool n1.neg, .string (txt n1.dig), .int .i64 n1.exp, .string (txt s1), .slice p1 ks1.length d1, .slice a1 vs1.length c1] 29)) (.cells #[.int .i64 k2, .bool b2', .bool n2.neg, .string (txt n2.dig), .int .i64 n2.exp, .string (txt s2), .slice p2 ks2.length d2, .slice a2 vs2.length c2] 29)
       have hB2 := World.alloc_heap_new (wr.alloc (.cells #[.int .i64 k1, .bool b1', .bool n1.neg, .string (txt n1.dig), .int .i64 n1.exp, .string (txt s1), .slice p1 ks1.length d1, .slice a1 vs1.length c1] 29)) (.cells #[.int .i64 k2, .bool b2', .bool n2.neg, .string (txt n2.dig), .int .i64 n2.exp, .string (txt s2), .slice p2 ks2.length d2, .slice a2 vs2.length c2] 29)
       rw [World.size_alloc] at hB2
       obtain ⟨wB, hwB⟩ : ∃ wB, (wr.alloc (.cells #[.int .i64 k1, .bool b1', .bool n1.neg, .string (txt n1.dig), .int .i64 n1.exp, .string (txt s1), .slice p1 ks1.length d1, .slice a1 vs1.length c1] 29)).alloc (.cells #[.int .i64 k2, .bool b2', .bool n2.neg, .string (txt n2.dig), .int .i64 n2.exp, .string (txt s2), .slice p2 ks2.length d2, .slice a2 vs2.length c2] 29) = wB := ⟨_, rfl⟩
       have bC : Below wr.heap.size wr wB := by
         rw [← hwB]
         exact ((Below.refl _ wr).alloc (Nat.le_refl _) _).alloc (by simp) _
       rw [hwB] at hA2 hB2
       have hcall' := hcall wB (.agg #[.int .i64 k1, .bool b1', .bool n1.neg, .string (txt n1.dig), .int .i64 n1.exp, .string (txt s1), .slice p1 ks1.length d1, .slice a1 vs1.length c1]) (.agg #[.int .i64 k2, .bool b2', .bool n2.neg, .string (txt n2.dig), .int .i64 n2.exp, .string (txt s2), .slice p2 ks2.length d2, .slice a2 vs2.length c2]) ⟨_, rfl, Hold.below (bB.trans (bC.mono bB.size)) _ hxx⟩ ⟨_, rfl, Hold.below (bB.trans (bC.mono bB.size)) _ hyy⟩
       obtain ⟨f0, f1, f2, f3, f4, f5, f6, f7⟩ := eight hA2
       obtain ⟨g0, g1, g2, g3, g4, g5, g6, g7⟩ := eight hB2
       have HW := Lib.hid hwB
       have HS := Lib.hid hsnoc
       have HO := Lib.hid hoff
       clear hwB hx8 hy8 hxx hyy hcall hxa hxb hsnoc hoff hjt ih hA2 hB2
       go_wp2_with fail
       rw [HW.out]
       go_wp2_with fail
       refine hcall'.mono ?_
       rintro e w1 ⟨⟨r, rfl, hr⟩, kx⟩
       have bx := (bB.trans (bC.mono bB.size)).trans (kx.mono (Nat.le_trans bB.size bC.size))
       cases r with
       | true =>
         have HX := Lib.hid (HS.out (hr.1 rfl))
         clear hr
         go_wp2_with fail
         go_roundw
         case rel => exact ⟨j + 1, by omega, by go_num, HX.out, bx⟩
         case measure => simp [intOf]; omega
       | false =>
         have hno := HO.out fun e => by have := hr.2 e; cases this
         go_wp2_with fail
         go_ret
         exact ⟨⟨false, rfl, by simp; exact hno⟩, bx⟩
     · obtain rfl : j = vs.length := by omega
       rw [List.take_length, HE.out, List.take_length] at hjt
       have HT := Lib.hid hjt
       clear hjt
       go_wp2_with fail
       go_ret
       exact ⟨⟨true, rfl, by simp; exact HT.out⟩, bB⟩
 · have HN : ¬ vs = vs' := fun e => e6 (by rw [e])
   have e6' : (((vs.length : Nat) : Int) != ((vs'.length : Nat) : Int)) = true := by simp; omega
   go_enter Tryz.func148, Tryz.ntmps148
   go_wp2_with fail
   go_ret
   exact ⟨⟨false, rfl, by simp [HN]⟩, Below.refl _ _⟩
set_option maxRecDepth 100000 in
set_option maxHeartbeats 8000000 in
theorem tsame_of : ∀ (x : Val) (y : Val) (w : World) (u v : Value), HoldV w u x → HoldV w v y → Calls Tryz.prog 114 #[u, v] w fun e w' => (∃ r : Bool, e = .returned (.bool r) ∧ (r = true ↔ x = y)) ∧ Below w.heap.size w w' := by
 refine ind1 fun x ih y w u v hx hy => ?_
 obtain ⟨k, b, n, s, ks, vs⟩ := x
 obtain ⟨k', b', n', s', ks', vs'⟩ := y
 obtain ⟨cs, rfl, hc⟩ := hx
 obtain ⟨cs', rfl, hc'⟩ := hy
 rw [Hold] at hc hc'
 obtain ⟨uk, a, c, rfl, hk, hv⟩ := hc
 obtain ⟨uk', a', c', rfl, hk', hv'⟩ := hc'
 have hv : Kids w a c vs := hv
 have hv' : Kids w a' c' vs' := hv'
 show Calls Tryz.prog 114 #[.agg #[.int .i64 k, .bool b, .bool n.neg, .string (txt n.dig), .int .i64 n.exp, .string (txt s), uk, .slice a vs.length c], .agg #[.int .i64 k', .bool b', .bool n'.neg, .string (txt n'.dig), .int .i64 n'.exp, .string (txt s'), uk', .slice a' vs'.length c']] w _
 have hA := new_of (World.alloc_heap_new w (.cells #[.int .i64 k, .bool b, .bool n.neg, .string (txt n.dig), .int .i64 n.exp, .string (txt s), uk, .slice a vs.length c] 29)) (.cells #[.int .i64 k', .bool b', .bool n'.neg, .string (txt n'.dig), .int .i64 n'.exp, .string (txt s'), uk', .slice a' vs'.length c'] 29)
 have hB := World.alloc_heap_new (w.alloc (.cells #[.int .i64 k, .bool b, .bool n.neg, .string (txt n.dig), .int .i64 n.exp, .string (txt s), uk, .slice a vs.length c] 29)) (.cells #[.int .i64 k', .bool b', .bool n'.neg, .string (txt n'.dig), .int .i64 n'.exp, .string (txt s'), uk', .slice a' vs'.length c'] 29)
 rw [World.size_alloc] at hB
 have bA : Below w.heap.size w ((w.alloc (.cells #[.int .i64 k, .bool b, .bool n.neg, .string (txt n.dig), .int .i64 n.exp, .string (txt s), uk, .slice a vs.length c] 29)).alloc (.cells #[.int .i64 k', .bool b', .bool n'.neg, .string (txt n'.dig), .int .i64 n'.exp, .string (txt s'), uk', .slice a' vs'.length c'] 29)) := ((Below.refl _ w).alloc (Nat.le_refl _) _).alloc (by simp) _
 obtain ⟨c0, c1, c2, c3, c4, c5, c6, c7⟩ := eight hA
 obtain ⟨d0, d1, d2, d3, d4, d5, d6, d7⟩ := eight hB
 by_cases e1 : k = k'
 · by_cases e2 : b = b'
   · by_cases e3 : n = n'
     · subst e1; subst e2; subst e3
       clear c0 c1 c2 c3 c4 d0 d1 d2 d3 d4 c5 c6 c7 d5 d6 d7
       obtain ⟨c0, c1, c2, c3, c4, c5, c6, c7⟩ := eight hA
       obtain ⟨d0, d1, d2, d3, d4, d5, d6, d7⟩ := eight hB
       by_cases e4 : s = s'
       · subst e4
         have ht := fun wx (h : Below w.heap.size w wx) => teq_any (hk.below h) (hk'.below h)
         have hf := fun wx (h : Below w.heap.size w wx) => teqf_any (vs := vs) (fun x hx => ih x hx) (hv.below h) (hv'.below h)
         clear ih
         go_enter Tryz.func114, Tryz.ntmps114
         go_wp2_with fail
         refine (ht _ bA).mono ?_
         rintro e w1 ⟨⟨r, rfl, hr⟩, k1⟩
         have b1 := bA.trans (k1.mono bA.size)
         have hA1 := (k1.block _ (lt_of_heap hA)).trans hA
         have hB1 := (k1.block _ (lt_of_heap hB)).trans hB
         clear c0 c1 c2 c3 c4 c5 c6 c7 d0 d1 d2 d3 d4 d5 d6 d7 hA hB bA k1 ht
         obtain ⟨c0, c1, c2, c3, c4, c5, c6, c7⟩ := eight hA1
         obtain ⟨d0, d1, d2, d3, d4, d5, d6, d7⟩ := eight hB1
         cases r with
         | true =>
           obtain rfl := hr.1 rfl
           clear hr
           have HF := Lib.hid (hf _ b1)
           clear hf
           go_wp2_with fail
           refine HF.out.mono ?_
           rintro e w2 ⟨⟨r, rfl, hr2⟩, k2⟩
           have b2 := b1.trans (k2.mono b1.size)
           cases r with
           | true =>
             obtain rfl := hr2.1 rfl
             clear hr2
             go_wp2_with fail
             go_ret
             exact ⟨rfl, b2⟩
           | false =>
             have HN : ¬ (Val.mk k b n s ks vs = Val.mk k b n s ks vs') := fun e => by
               injection e with _ _ _ _ _ e
               have := hr2.2 e
               cases this
             clear hr2
             go_wp2_with fail
             go_ret
             exact ⟨⟨false, rfl, by simp [HN]⟩, b2⟩
         | false =>
           have HN : ¬ (Val.mk k b n s ks vs = Val.mk k b n s ks' vs') := fun e => by
             injection e with _ _ _ _ e _
             have := hr.2 e
             cases this
           clear hr hf
           go_wp2_with fail
           go_ret
           exact ⟨⟨false, rfl, by simp [HN]⟩, b1⟩
       · have HN : ¬ (Val.mk k b n s ks vs = Val.mk k b n s' ks' vs') := fun e => e4 (by injection e)
         have e4' := txt_ne e4
         go_enter Tryz.func114, Tryz.ntmps114
         go_wp2_with fail
         go_ret
         exact ⟨⟨false, rfl, by simp [HN]⟩, bA⟩
     · have HN : ¬ (Val.mk k b n s ks vs = Val.mk k' b' n' s' ks' vs') := fun e => e3 (by injection e)
       subst e1; subst e2
       obtain ⟨g1, g2, g3⟩ := n
       obtain ⟨g1', g2', g3'⟩ := n'
       dsimp only at *
       have hd : (g1 == g1') = false ∨ (g1 = g1' ∧ ((txt g2).toList == (txt g2').toList) = false) ∨ (g1 = g1' ∧ g2 = g2' ∧ (g3 == g3') = false) := by
         by_cases f1 : g1 = g1'
         · by_cases f2 : g2 = g2'
           · by_cases f3 : g3 = g3'
             · exact absurd (by rw [f1, f2, f3]) e3
             · exact .inr (.inr ⟨f1, f2, by simpa using f3⟩)
           · exact .inr (.inl ⟨f1, txt_ne f2⟩)
         · exact .inl (by simpa using f1)
       clear e3
       rcases hd with h1 | ⟨rfl, h1⟩ | ⟨rfl, rfl, h1⟩
       all_goals
         go_enter Tryz.func114, Tryz.ntmps114
         go_wp2_with fail
         go_ret
         exact ⟨⟨false, rfl, by simp [HN]⟩, bA⟩
   · have HN : ¬ (Val.mk k b n s ks vs = Val.mk k' b' n' s' ks' vs') := fun e => e2 (by injection e)
     subst e1
     have e2' : (b == b') = false := by simpa using e2
     go_enter Tryz.func114, Tryz.ntmps114
     go_wp2_with fail
     go_ret
     exact ⟨⟨false, rfl, by simp [HN]⟩, bA⟩
 · have HN : ¬ (Val.mk k b n s ks vs = Val.mk k' b' n' s' ks' vs') := fun e => e1 (by injection e)
   have e1' : (k == k') = false := by simpa using e1
   go_enter Tryz.func114, Tryz.ntmps114
   go_wp2_with fail
   go_ret
   exact ⟨⟨false, rfl, by simp [HN]⟩, bA⟩
end Go.Proofs.YtlfbnfphocpgeaaGreatDoor.Tre
namespace Go.Proofs.YtlfbnfphocpgeaaGreatDoor.Tre
open Go.RowKit Kit Txt
open Num (Dec zero)
end Go.Proofs.YtlfbnfphocpgeaaGreatDoor.Tre
