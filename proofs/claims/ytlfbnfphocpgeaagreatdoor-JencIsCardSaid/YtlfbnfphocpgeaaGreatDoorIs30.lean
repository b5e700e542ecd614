/- A part of what is_holds leans on (its texts, put together). Nothing is claimed here. -/
import Derived.Lib.AppendIntMem
import Derived.Test.YtlfbnfphocpgeaaGreatDoorIs26
import Derived.Test.YtlfbnfphocpgeaaGreatDoorIs29
namespace Go.Proofs.YtlfbnfphocpgeaaGreatDoor.Num
open Go.RowKit Kit BldN
def Pow (w : World) : Prop := Lib.TabIs Tryz.prog w "internal/strconv.uint64pow10" .u64 Lib.pow10Tab
theorem digits_lib : ∀ n, Lib.decDigits n = digits n := by
 intro n
 induction n using Nat.strongRecOn with
 | ind n ih =>
   by_cases h : n < 10
   · rw [Lib.decDigits, dif_pos h, digits_lo h]
   · rw [Lib.decDigits, dif_neg h, digits_hi (by omega), ih (n / 10) (by omega)]
theorem repeat_noughts (k : Nat) : Lib.repeatL [48] k = noughts k := by
 induction k with
 | zero => rfl
 | succ k ih =>
   show [48] ++ Lib.repeatL [48] k = noughts (k + 1)
   rw [ih]
   rfl
theorem Pow.fence {w0 w w' : World} {B : Nat} (h0 : Pow w0) (h : Pow w) (k : Below B w w') (hB : w0.heap.size ≤ B) : Pow w' := by
 unfold Pow Lib.TabIs World.var? at *
 cases hg : Tryz.prog.globalNamed "internal/strconv.uint64pow10" with
 | none => rw [hg] at h; cases h
 | some g =>
   rw [hg] at h h0
   rw [← h]
   simp only [Option.bind_some] at h h0 ⊢
   have hlt : g < w0.heap.size := by
     by_cases c : g < w0.heap.size
     · exact c
     · rw [Array.getElem?_eq_none (by omega)] at h0
       cases h0
   rw [k.block g (by omega)]
theorem Pow.below {w w' : World} (h : Pow w) (k : Below w.heap.size w w') : Pow w' := h.fence h k (Nat.le_refl _)
theorem itoa_any {z : Int} (h0 : -100000 ≤ z) (h1 : z ≤ 100000) {w : World} (hp : Pow w) :
   Calls Tryz.prog 109 #[.int .i64 z] w fun e w' => e = .returned (.string (txt (Lib.itoa z))) ∧ Below w.heap.size w w' := by
 refine (Tryz.strconv_Itoa z (by omega) (by omega) w hp).mono ?_
 rintro e w' ⟨he, k, os, rfl⟩
 exact ⟨he, Lib.below_grow _ _ (Nat.le_refl _) k os⟩
theorem repeat_any {z : Int} {c : Nat} (hz : z = (c : Int)) (hc : c ≤ 100000) {w : World} :
   Calls Tryz.prog 110 #[.string ⟨#[48]⟩, .int .i64 z] w fun e w' => e = .returned (.string (txt (noughts c))) ∧ Below w.heap.size w w' := by
 subst hz
 rw [← repeat_noughts]
 exact Tryz.strings_Repeat ⟨#[48]⟩ c w (by omega) (by show 1 * c ≤ _; omega)
set_option maxHeartbeats 4000000 in
set_option maxRecDepth 100000 in
theorem nprint_pow {w : World} (hpw : Pow w) {n : Dec} (hl : n.dig.length < 100000) :
   Calls Tryz.prog 74 #[numV n] w fun e w' => e = .returned (.string (txt (print n))) ∧ Below w.heap.size w w' := by
 have hS := box_new w (.bool n.neg) (.string (txt n.dig)) (.int .i64 n.exp)
 have hr := nright_all (w := w.alloc (.cells #[.bool n.neg, .string (txt n.dig), .int .i64 n.exp] 25)) (n := n) (by omega)
 have hs := txt_size n.dig
 have hp : print n = if ¬ Right n then []
   else if n.dig = [] then [48]
   else if 20 < n.exp then negT n.neg ++ (n.dig ++ (101 :: digits n.exp.toNat))
   else if n.exp < -20 then negT n.neg ++ (n.dig ++ (101 :: 45 :: digits (-n.exp).toNat))
   else if 0 ≤ n.exp then negT n.neg ++ (n.dig ++ noughts n.exp.toNat)
   else if -n.exp < n.dig.length then negT n.neg ++ (n.dig.take (n.dig.length - (-n.exp).toNat) ++ (46 :: n.dig.drop (n.dig.length - (-n.exp).toNat)))
   else negT n.neg ++ (48 :: 46 :: (noughts ((-n.exp).toNat - n.dig.length) ++ n.dig)) := rfl
 by_cases hR : Right n
 · obtain ⟨e0, e1, e2, -⟩ := right_exp hR
   rw [decide_eq_true hR] at hr
   rw [if_neg (not_not_intro hR)] at hp
   obtain ⟨ng, l, ex⟩ := n
   simp only [numV] at *
   by_cases h0 : l = []
   · subst h0
     rw [if_pos rfl] at hp
     rw [hp]
     have he := toList_txt []
     simp only [List.length_nil] at hs
     clear hp hR
     go_enter Tryz.func74, Tryz.ntmps74
     obtain ⟨x0, x1, x2, b0⟩ := id hS
     go_wp2_with fail
     refine hr.mono ?_
     rintro e w1 ⟨rfl, k1⟩
     have hS1 := box_step (w := w) hS k1
     clear hr k1 hS x0 x1 x2 b0
     obtain ⟨x0, x1, x2, b1⟩ := id hS1
     go_wp2_with fail
     go_ret
     exact ⟨rfl, b1⟩
   · rw [if_neg h0] at hp
     have he1 : (txt l).toList.isEmpty = false := by rw [toList_txt]; simp [h0]
     have he2 : ((txt l).toList == []) = false := by rw [toList_txt]; simp [h0]
     have hln := List.length_pos_iff.2 h0
     have hng := negT_len ng
     have HP := Lib.hid hp
     clear hR hp
     go_enter Tryz.func74, Tryz.ntmps74
     obtain ⟨x0, x1, x2, b0⟩ := id hS
     go_wp2_with fail
     refine hr.mono ?_
     rintro e w1 ⟨rfl, k1⟩
     have hS1 := box_step (w := w) hS k1
     have hpw1 := hpw.below (b0.trans (k1.mono b0.size))
     clear hr k1 hS x0 x1 x2 b0
     obtain ⟨x0, x1, x2, b1⟩ := id hS1
     obtain ⟨B, hB⟩ : ∃ B, w1.heap.size = B := ⟨_, rfl⟩
     have hnew := Bld.new w1
     have ka : Below w1.heap.size w1 (w1.alloc (.cells #[.pointer none, .slice none 0 0] 62)) := (Below.refl _ w1).alloc (Nat.le_refl _) _
     have hS2 := box_step (w := w) hS1 ka
     have hpw2 := hpw1.below ka
     obtain ⟨y0, y1, y2, b2⟩ := id hS2
     rw [hB] at hnew
     have hwB : w.heap.size ≤ B := by rw [← hB]; exact b1.size
     have hN : w.heap.size < B := by
       have := World.block_lt_of_cell? _ _ x0
       rw [← hB]
       exact this
     go_upto_if 12 with fail
     go_cut [] from 13 (fun wc => Bld B B (negT ng) wc ∧ Pow wc ∧ wc.cell? ⟨w.heap.size, 0, none⟩ = some (.bool ng) ∧ wc.cell? ⟨w.heap.size, 1, none⟩ = some (.string (txt l)) ∧ wc.cell? ⟨w.heap.size, 2, none⟩ = some (.int .i64 ex) ∧ Below w.heap.size w wc)
     case first =>
       cases ng with
       | true =>
         have hwb := byte_any (c := 45) (x := 45) hnew (by simp) rfl
         go_wp2_with fail
         refine hwb.mono ?_
         rintro e w3 ⟨rfl, hb3, k3⟩
         have hc : ∀ i, w3.cell? ⟨w.heap.size, i, none⟩ = (w1.alloc (.cells #[.pointer none, .slice none 0 0] 62)).cell? ⟨w.heap.size, i, none⟩ := fun i => k3.cell (p := ⟨w.heap.size, i, none⟩) hN
         have hpw3 := hpw.fence hpw2 k3 hwB
         go_wp2_with fail
         go_meet
         case rel => exact ⟨hb3, hpw3, (hc 0).trans y0, (hc 1).trans y1, (hc 2).trans y2, b2.trans (k3.mono hwB)⟩
       | false =>
         go_wp2_with fail
         go_meet
         case rel => exact ⟨hnew, hpw2, y0, y1, y2, b2⟩
     case rest =>
       clear x0 x1 x2 b1 y0 y1 y2 b2 hS1 hS2 hnew ka hpw1 hpw2 hB
       obtain ⟨hb, hpc, x0, x1, x2, bc⟩ := hcut
       have hsgl : (negT ng).length ≤ 1 := hng
       have hp := HP.out
       generalize negT ng = sg at *
       have hBc : B ≤ wc.heap.size := hb.1
       have hw0 : IntKind.i64.wrap ((l.length : Int) + ex) = (l.length : Int) + ex := IntWalk.i64_in _ (by omega)
       have hSc : wc.cell? ⟨w.heap.size, 0, none⟩ = some (.bool ng) ∧ wc.cell? ⟨w.heap.size, 1, none⟩ = some (.string (txt l)) ∧ wc.cell? ⟨w.heap.size, 2, none⟩ = some (.int .i64 ex) ∧ Below w.heap.size w wc := ⟨x0, x1, x2, bc⟩
       clear HP hng
       by_cases hA : ex < -20 ∨ 20 < ex
       · have hpr : print ⟨ng, l, ex⟩ = sg ++ (l ++ [101] ++ Lib.itoa ex) := by
           rw [hp]
           unfold Lib.itoa
           rcases hA with h | h
           · rw [if_neg (by omega), if_pos h, if_pos (by omega), digits_lib, show (-ex).toNat = ex.natAbs by omega]
             simp
           · rw [if_pos h, if_neg (by omega), digits_lib]
             simp
         have hIl : (Lib.itoa ex).length < 100 := by
           unfold Lib.itoa
           rw [digits_lib, digits_lib]
           have h1 := digits_len ex.natAbs 12 (by omega) (by omega)
           have h2 := digits_len ex.toNat 12 (by omega) (by omega)
           split
           · rw [List.length_cons]; omega
           · omega
         have hI := fun wx => itoa_any (z := ex) (by omega) (by omega) (w := wx)
         obtain ⟨D, hDe⟩ : ∃ D, Lib.itoa ex = D := ⟨_, rfl⟩
         rw [hDe] at hIl hpr
         simp only [hDe] at hI
         have HPR := Lib.hid hpr
         obtain ⟨f1, g1⟩ := add_lit (a := l) (b := [101]) (s := ⟨#[101]⟩) (c := l ++ [101]) rfl rfl (by omega) (by simp)
         have f1b : ¬ (9223372036854775807 < (txt l).size + 1) := by omega
         have f1c : ¬ (9223372036854775807 < l.length + 1) := by omega
         obtain ⟨A, hAe⟩ : ∃ A, l ++ [101] = A := ⟨_, rfl⟩
         have hAl := congrArg List.length hAe
         simp only [List.length_append, List.length_cons, List.length_nil] at hAl
         rw [hAe] at g1
         obtain ⟨f2, g2⟩ := add_lit (a := A) (b := D) (c := A ++ D) rfl rfl (by omega) (by omega)
         have HAE := Lib.hid hAe
         have hWS := fun wx (h : Bld B B sg wx) => str_any (m := A ++ D) h (by omega) (by rw [List.length_append]; omega)
         have c1 : ex < -20 ∨ (decide (ex < -20) = false ∧ 20 < ex) := by
           rcases hA with h | h
           · exact .inl h
           · exact .inr ⟨by simp; omega, h⟩
         clear hp hpr hAe hA hDe hAl hIl
         rcases c1 with c1 | ⟨c1, c2⟩
         all_goals
           go_upto_region 11 with fail
           clear hs
           go_region_with (first
             | (go_at_call 109; refine (hI _ (hpc.below (below_drewN (Below.refl _ _) 1))).mono ?_; rintro e wx ⟨rfl, kx⟩; have kk := (below_drewN (Below.refl wc.heap.size wc) 1).trans kx; have nS := box_step (w := w) hSc kk; obtain ⟨n0, n1, n2, n3⟩ := nS; have hB2 := hb.kept kk)
             | (go_at_call 108; refine (hWS _ hB2).mono ?_; rintro e wy ⟨rfl, hB3, ky⟩; have b3 := n3.trans (ky.mono hwB)))
           all_goals
             have hstr := string_any hB3
             clear hI hWS hB2
             go_wp2_with fail
             refine hstr.mono ?_
             rintro e wz ⟨rfl, kz⟩
             go_wp2_with fail
             go_ret
             exact ⟨by (rw [HPR.out, ← HAE.out]; rfl), b3.trans (kz.mono hwB)⟩
       · have k1 : decide (ex < -20) = false := by simp; omega
         have k2 : decide (20 < ex) = false := by simp; omega
         by_cases hZ : 0 ≤ ex
         · have hpr : print ⟨ng, l, ex⟩ = sg ++ (l ++ noughts ex.toNat) := by rw [hp, if_neg (by omega), if_neg (by omega), if_pos hZ]
           have hI := fun wx => repeat_any (z := ex) (c := ex.toNat) (by omega) (by omega) (w := wx)
           obtain ⟨D, hDe⟩ : ∃ D, noughts ex.toNat = D := ⟨_, rfl⟩
           have hIl : D.length < 100 := by rw [← hDe, noughts_len]; omega
           rw [hDe] at hpr
           simp only [hDe] at hI
           have HPR := Lib.hid hpr
           obtain ⟨f1, g1⟩ := add_lit (a := l) (b := D) (c := l ++ D) rfl rfl (by omega) (by omega)
           have hWS := fun wx (h : Bld B B sg wx) => str_any (m := l ++ D) h (by omega) (by rw [List.length_append]; omega)
           clear hp hpr hA hDe hIl
           go_upto_region 13 with fail
           clear hs
           go_region_with (first
             | (go_at_call 110; refine (hI _).mono ?_; rintro e wx ⟨rfl, kx⟩; have kk := (below_drewN (Below.refl wc.heap.size wc) 1).trans kx; have nS := box_step (w := w) hSc kk; obtain ⟨n0, n1, n2, n3⟩ := nS; have hB2 := hb.kept kk)
             | (go_at_call 108; refine (hWS _ hB2).mono ?_; rintro e wy ⟨rfl, hB3, ky⟩; have b3 := n3.trans (ky.mono hwB)))
           all_goals
             have hstr := string_any hB3
             clear hI hWS hB2
             go_wp2_with fail
             refine hstr.mono ?_
             rintro e wz ⟨rfl, kz⟩
             go_wp2_with fail
             go_ret
             exact ⟨by (rw [HPR.out]; rfl), b3.trans (kz.mono hwB)⟩
         · have k3 : decide (0 ≤ ex) = false := by simp; omega
           by_cases hC : 0 < (l.length : Int) + ex
           · obtain ⟨q, hq⟩ : ∃ q : Nat, (l.length : Int) + ex = (q : Int) := ⟨((l.length : Int) + ex).toNat, by omega⟩
             have hpr : print ⟨ng, l, ex⟩ = sg ++ (l.take q ++ [46] ++ l.drop q) := by
               rw [hp, if_neg (by omega), if_neg (by omega), if_neg hZ, if_pos (by omega), show l.length - (-ex).toNat = q by omega]
               simp
             have s1 := slH (l := l) (z := (q : Int)) (k := q) rfl (by omega)
             have s2 := slL (l := l) (z := (q : Int)) (k := q) rfl (by omega)
             have hl1 : (l.take q).length ≤ l.length := by rw [List.length_take]; omega
             have hl2 : (l.drop q).length ≤ l.length := by rw [List.length_drop]; omega
             obtain ⟨X, hX⟩ : ∃ X, l.take q = X := ⟨_, rfl⟩
             obtain ⟨Y, hY⟩ : ∃ Y, l.drop q = Y := ⟨_, rfl⟩
             rw [hX] at s1 hpr hl1
             rw [hY] at s2 hpr hl2
             have HPR := Lib.hid hpr
             obtain ⟨f1, g1⟩ := add_lit (a := X) (b := [46]) (s := ⟨#[46]⟩) (c := X ++ [46]) rfl rfl (by omega) (by simp)
             have f1b : ¬ (9223372036854775807 < (txt X).size + 1) := by have := txt_size X; omega
             obtain ⟨A, hAe⟩ : ∃ A, X ++ [46] = A := ⟨_, rfl⟩
             have hAl := congrArg List.length hAe
             simp only [List.length_append, List.length_cons, List.length_nil] at hAl
             rw [hAe] at g1
             obtain ⟨f2, g2⟩ := add_lit (a := A) (b := Y) (c := A ++ Y) rfl rfl (by omega) (by omega)
             have HAE := Lib.hid hAe
             have hWS := fun wx (h : Bld B B sg wx) => str_any (m := A ++ Y) h (by omega) (by rw [List.length_append]; omega)
             have hC' : (0 : Int) < (q : Int) := by omega
             have bd := below_drewN bc 1
             have hbd := hb.kept (below_drewN (Below.refl wc.heap.size wc) 1)
             clear hp hpr hA hAe hAl hX hY hl1 hl2 hC hZ
             go_upto_region 15 with fail
             clear hs hq
             go_region_with (first
               | (go_at_call 108; refine (hWS _ hbd).mono ?_; rintro e wy ⟨rfl, hB3, ky⟩; have b3 := bd.trans (ky.mono hwB)))
             all_goals
               have hstr := string_any hB3
               clear hWS
               go_wp2_with fail
               refine hstr.mono ?_
               rintro e wz ⟨rfl, kz⟩
               go_wp2_with fail
               go_ret
               exact ⟨by (rw [HPR.out, ← HAE.out]; rfl), b3.trans (kz.mono hwB)⟩
           · obtain ⟨q, hq⟩ : ∃ q : Nat, -((l.length : Int) + ex) = (q : Int) := ⟨(-((l.length : Int) + ex)).toNat, by omega⟩
             have hpr : print ⟨ng, l, ex⟩ = sg ++ ([48, 46] ++ noughts q ++ l) := by
               rw [hp, if_neg (by omega), if_neg (by omega), if_neg hZ, if_neg (by omega), show (-ex).toNat - l.length = q by omega]
               simp
             have k4 : decide ((0 : Int) < (l.length : Int) + ex) = false := by simp; omega
             have hI := fun wx => repeat_any (z := -((l.length : Int) + ex)) (c := q) hq (by omega) (w := wx)
             have hw3 : IntKind.i64.wrap (-((l.length : Int) + ex)) = -((l.length : Int) + ex) := IntWalk.i64_in _ (by omega)
             obtain ⟨D, hDe⟩ : ∃ D, noughts q = D := ⟨_, rfl⟩
             have hIl : D.length < 20000 := by rw [← hDe, noughts_len]; omega
             rw [hDe] at hpr
             simp only [hDe] at hI
             have HPR := Lib.hid hpr
             obtain ⟨f1, g1⟩ := add_lit (a := [48, 46]) (b := D) (c := [48, 46] ++ D) rfl rfl (by simp) (by omega)
             have hlit : (⟨#[48, 46]⟩ : ByteArray) = txt [48, 46] := rfl
             obtain ⟨A, hAe⟩ : ∃ A, [48, 46] ++ D = A := ⟨_, rfl⟩
             have hAl := congrArg List.length hAe
             simp only [List.length_append, List.length_cons, List.length_nil] at hAl
             rw [hAe] at g1
             rw [← hlit] at f1 g1
             have f1b : ¬ (9223372036854775807 < 2 + (txt D).size) := by have := txt_size D; omega
             obtain ⟨f2, g2⟩ := add_lit (a := A) (b := l) (c := A ++ l) rfl rfl (by omega) (by omega)
             have HAE := Lib.hid hAe
             have hWS := fun wx (h : Bld B B sg wx) => str_any (m := A ++ l) h (by omega) (by rw [List.length_append]; omega)
             clear hp hpr hA hAe hAl hC hZ hDe hIl hlit hq
             go_upto_region 9 with fail
             clear hs
             go_region_with (first
               | (go_at_call 110; refine (hI _).mono ?_; rintro e wx ⟨rfl, kx⟩; have kk := (below_drewN (Below.refl wc.heap.size wc) 1).trans kx; have nS := box_step (w := w) hSc kk; obtain ⟨n0, n1, n2, n3⟩ := nS; have hB2 := hb.kept kk)
               | (go_at_call 108; refine (hWS _ hB2).mono ?_; rintro e wy ⟨rfl, hB3, ky⟩; have b3 := n3.trans (ky.mono hwB)))
             all_goals
               have hstr := string_any hB3
               clear hI hWS hB2
               go_wp2_with fail
               refine hstr.mono ?_
               rintro e wz ⟨rfl, kz⟩
               go_wp2_with fail
               go_ret
               exact ⟨by (rw [HPR.out, ← HAE.out]; rfl), b3.trans (kz.mono hwB)⟩
 · rw [if_pos hR] at hp
   rw [decide_eq_false hR] at hr
   rw [hp]
   clear hp hR
   simp only [numV] at *
   go_enter Tryz.func74, Tryz.ntmps74
   obtain ⟨x0, x1, x2, b0⟩ := id hS
   have ht0 : (⟨#[]⟩ : ByteArray) = txt [] := rfl
   go_wp2_with fail
   refine hr.mono ?_
   rintro e w1 ⟨rfl, k1⟩
   have hS1 := box_step (w := w) hS k1
   clear hr k1 hS x0 x1 x2 b0
   obtain ⟨x0, x1, x2, b1⟩ := id hS1
   go_wp2_with fail
   go_ret
   exact ⟨rfl, b1⟩
end Go.Proofs.YtlfbnfphocpgeaaGreatDoor.Num
namespace Go.Proofs.YtlfbnfphocpgeaaGreatDoor.Bld
open Go.RowKit Kit Txt
theorem byte_any {B b : Nat} {l : List UInt8} {c : UInt8} {x : Int} {w : World} (h : Bld B b l w) (hl : l.length < 1000000) (hx : x = (c.toNat : Int)) :
   Calls Tryz.prog 107 #[.pointer (some ⟨b, 0, none⟩), .int .u8 x] w fun e w' => e = .returned .nilIface ∧ Bld B b (l ++ [c]) w' ∧ Below B w w' := by
 subst hx
 refine (Tryz.Builder_WriteByte B b (Lib.byteCells l) (c.toNat : Int) w h.2 (by rw [Lib.byteCells_length]; omega) h.1).mono ?_
 rintro e w' ⟨he, hb, k⟩
 refine ⟨he, ⟨Nat.le_trans h.1 k.size, .inr ?_⟩, k⟩
 rw [← cells_app]
 exact hb
end Go.Proofs.YtlfbnfphocpgeaaGreatDoor.Bld
namespace Go.Proofs.YtlfbnfphocpgeaaGreatDoor.Quo
open Go.RowKit Kit Txt Utf Bld
def Ok (w : World) : Prop := Laid w
def hexL : List UInt8 := [48, 49, 50, 51, 52, 53, 54, 55, 56, 57, 97, 98, 99, 100, 101, 102]
theorem esc_how : ∀ x : Fin 256, (AsIs x.val ∧ esc (UInt8.ofNat x.val) = [UInt8.ofNat x.val]) ∨
   (¬ AsIs x.val ∧ ∃ i : Fin 8, Lib.indexByte meansL (UInt8.ofNat x.val) = (i.val : Int) ∧ esc (UInt8.ofNat x.val) = [92, signsL.getD i.val 0]) ∨
   (¬ AsIs x.val ∧ Lib.indexByte meansL (UInt8.ofNat x.val) = -1 ∧ esc (UInt8.ofNat x.val) = [92, 117, 48, 48, hexL.getD (x.val / 16) 0, hexL.getD (x.val % 16) 0]) := by decide +kernel
theorem esc_cases (c : UInt8) : (AsIs c.toNat ∧ esc c = [c]) ∨ (¬ AsIs c.toNat ∧ ∃ i : Nat, i < 8 ∧ Lib.indexByte meansL c = (i : Int) ∧ esc c = [92, signsL.getD i 0]) ∨
   (¬ AsIs c.toNat ∧ Lib.indexByte meansL c = -1 ∧ esc c = [92, 117, 48, 48, hexL.getD (c.toNat / 16) 0, hexL.getD (c.toNat % 16) 0]) := by
 have h := esc_how ⟨c.toNat, c.toNat_lt⟩
 dsimp only at h
 rw [show UInt8.ofNat c.toNat = c from UInt8.ofNat_toNat] at h
 exact h.imp id (Or.imp (fun ⟨h0, i, h1, h2⟩ => ⟨h0, i.val, i.isLt, h1, h2⟩) id)
theorem idx8 {l : List UInt8} {i : Nat} (h : i < l.length) (wx : World) : (Instr.index 9 (.string (txt l)) (.int .u8 (i : Int))).run Tryz.prog wx = .ok (.int .u8 ((l.getD i 0).toNat : Int)) wx := by
 have hs := txt_size l
 rw [run_index_string wx 9 (txt l) .u8 i Tryz.underlying9, dif_pos ⟨by omega, by omega⟩]
 congr 3
 rw [List.getD_eq_getElem?_getD, List.getElem?_eq_getElem h]
 rfl
theorem idx64 {l : List UInt8} {i : Nat} (h : i < l.length) (wx : World) : (Instr.index 9 (.string (txt l)) (.int .i64 (i : Int))).run Tryz.prog wx = .ok (.int .u8 ((l.getD i 0).toNat : Int)) wx := idx h wx
theorem and15 : ∀ x : Nat, x < 256 → bits .and .u8 (x : Int) 15 = ((x % 16 : Nat) : Int) := by decide +kernel
theorem flat_step {l : List UInt8} {k : Nat} (h : k < l.length) : (l.take (k + 1)).flatMap esc = (l.take k).flatMap esc ++ esc l[k] := by
 rw [List.take_succ_eq_append_getElem h, List.flatMap_append]
 simp
set_option maxRecDepth 100000 in
set_option maxHeartbeats 4000000 in
theorem qprint_any {w : World} (ho : Ok w) {l : List UInt8} (hl : l.length < 100000) :
   Calls Tryz.prog 111 #[.string (txt l)] w fun e w' => e = .returned (.tuple #[.string (txt (if bad l = none then print l else [])), .int .i64 ((if bad l = none then 0 else 7 : Nat) : Int)]) ∧ Below w.heap.size w w' := by
 have hz := txt_size l
 have ht0 : (⟨#[]⟩ : ByteArray) = txt [] := rfl
 have hv := valid_any (w := w) (s := txt l) (by omega) ho
 rw [txt_list, decide_eq_decide.2 (badI_neg l)] at hv
 by_cases hb : bad l = none
 case neg =>
   rw [decide_eq_false hb] at hv
   simp only [if_neg hb]
   clear hb
   go_enter Tryz.func111, Tryz.ntmps111
   go_wp2_with fail
   refine hv.mono ?_
   rintro _ w1 ⟨rfl, k1⟩
   go_wp2_with fail
   go_ret2
   exact ⟨rfl, k1⟩
 rw [decide_eq_true hb] at hv
 simp only [if_pos hb]
 clear hb
 have hby := fun (B : Nat) (wx : World) (a : List UInt8) (c : UInt8) (x : Int) (h : Bld B B a wx) (ha : a.length < 1000000) (hx : x = (c.toNat : Int)) => byte_any h ha (c := c) hx
 have hst := fun (B : Nat) (wx : World) (a b : List UInt8) (h : Bld B B a wx) (ha : a.length < 1000000) (hb : b.length < 1000000) => str_any h ha (m := b) hb
 have hsg := fun (B : Nat) (wx : World) (a : List UInt8) (h : Bld B B a wx) => string_any h
 have hpr : print l = 34 :: (l.flatMap esc ++ [34]) := rfl
 have hP := Lib.hid hpr
 clear hpr
 go_enter Tryz.func111, Tryz.ntmps111
 go_wp2_with fail
 refine hv.mono ?_
 rintro _ w1 ⟨rfl, k1⟩
 have b0 := Bld.new w1
 have q0 : Below w.heap.size w (w1.alloc (.cells #[.pointer none, .slice none 0 0] 62)) := k1.alloc k1.size _
 go_wp2_with fail
 refine (hby _ _ _ 34 _ b0 (by simp) rfl).mono ?_
 rintro _ w2 ⟨rfl, b2, k2⟩
 have q2 := q0.trans (k2.mono k1.size)
 have hBw := k1.size
 rw [List.nil_append] at b2
 go_wp2_with fail
 go_loopw [14] (fun i wr => ∃ k : Nat, k ≤ l.length ∧ i = .int .i64 (k : Int) ∧ Bld w1.heap.size w1.heap.size (34 :: (l.take k).flatMap esc) wr ∧ Below w.heap.size w wr ∧ ((l.take k).flatMap esc).length ≤ 6 * k) (fun i _ => l.length - (intOf i).toNat)
 case atStart => exact ⟨0, Nat.zero_le _, rfl, b2, q2, by simp⟩
 case round =>
   clear b2 q2 b0 q0 hv
   obtain ⟨k, hk, rfl, hB, hq, hlen⟩ := hrel
   by_cases hlt : k < l.length
   · have hks : (k : Int) < (l.length : Int) := by omega
     have hix := idx hlt
     rw [nb_get hlt] at hix
     have hfs := flat_step hlt
     have hc := esc_cases l[k]
     have hai := fun wx => asItIs_any (w := wx) (c := (l[k]).toNat) (x := ((l[k]).toNat : Int)) rfl
     have hib := fun wx => index_any (w := wx) meansL l[k]
     have tm : (⟨#[34, 92, 47, 8, 12, 10, 13, 9]⟩ : ByteArray) = txt meansL := rfl
     have ts : (⟨#[34, 92, 47, 98, 102, 110, 114, 116]⟩ : ByteArray) = txt signsL := rfl
     have th : (⟨#[48, 49, 50, 51, 52, 53, 54, 55, 56, 57, 97, 98, 99, 100, 101, 102]⟩ : ByteArray) = txt hexL := rfl
     have tu : (⟨#[92, 117, 48, 48]⟩ : ByteArray) = txt [92, 117, 48, 48] := rfl
     have hlt8 : (l[k]).toNat < 256 := (l[k]).toNat_lt
     rcases hc with ⟨h1, h2⟩ | ⟨h1, i, hi, h2, h3⟩ | ⟨h1, h2, h3⟩
     · simp only [decide_eq_true h1] at hai
       rw [h2] at hfs
       have hF := Lib.hid hfs
       clear hfs h1 h2 hib tm ts th tu hst
       generalize l[k] = c at *
       go_wp2_with fail
       refine (hai _).mono ?_
       rintro _ w3 ⟨rfl, rfl⟩
       go_wp2_with fail
       refine (hby _ _ _ c _ hB (by rw [List.length_cons]; omega) rfl).mono ?_
       rintro _ w4 ⟨rfl, b4, k4⟩
       go_wp2_with fail
       go_roundw
       case rel => exact ⟨k + 1, by omega, by go_num, by rw [hF.out]; exact b4, hq.trans (k4.mono hBw), by rw [hF.out, List.length_append, List.length_singleton]; omega⟩
       case measure => simp [intOf]; omega
     · simp only [decide_eq_false h1] at hai
       simp only [h2] at hib
       rw [h3] at hfs
       have hF := Lib.hid hfs
       have hsi := fun wx => idx64 (l := signsL) (i := i) hi wx
       have d0 : (0 : Int) ≤ (i : Int) := by omega
       clear hfs h1 h2 h3 th tu hst
       generalize signsL.getD i 0 = sg at *
       generalize l[k] = c at *
       go_wp2_with fail
       refine (hai _).mono ?_
       rintro _ w3 ⟨rfl, rfl⟩
       go_wp2_with fail
       refine (hib _).mono ?_
       rintro _ w3 ⟨rfl, rfl⟩
       go_wp2_with fail
       refine (hby _ _ _ 92 _ hB (by rw [List.length_cons]; omega) rfl).mono ?_
       rintro _ w4 ⟨rfl, b4, k4⟩
       go_wp2_with fail
       refine (hby _ _ _ sg _ b4 (by rw [List.length_append, List.length_cons, List.length_singleton]; omega) rfl).mono ?_
       rintro _ w5 ⟨rfl, b5, k5⟩
       go_wp2_with fail
       go_roundw
       case rel => exact ⟨k + 1, by omega, by go_num, by rw [hF.out]; rw [List.append_assoc] at b5; exact b5, hq.trans ((k4.trans k5).mono hBw), by rw [hF.out, List.length_append]; show _ + 2 ≤ _; omega⟩
       case measure => simp [intOf]; omega
     · simp only [decide_eq_false h1] at hai
       simp only [h2] at hib
       rw [h3] at hfs
       have hF := Lib.hid hfs
       have hi1 := fun wx => idx8 (l := hexL) (i := (l[k]).toNat / 16) (by show _ < 16; omega) wx
       have hi2 := fun wx => idx8 (l := hexL) (i := (l[k]).toNat % 16) (by show _ < 16; omega) wx
       have ha := and15 (l[k]).toNat hlt8
       have hd : ((l[k]).toNat : Int) / 16 = (((l[k]).toNat / 16 : Nat) : Int) := by omega
       clear hfs h1 h2 h3 ts
       generalize hexL.getD ((l[k]).toNat / 16) 0 = g1 at *
       generalize hexL.getD ((l[k]).toNat % 16) 0 = g2 at *
       generalize (l[k]).toNat / 16 = n1 at *
       generalize (l[k]).toNat % 16 = n2 at *
       generalize l[k] = c at *
       go_wp2_with fail
       refine (hai _).mono ?_
       rintro _ w3 ⟨rfl, rfl⟩
       go_wp2_with fail
       refine (hib _).mono ?_
       rintro _ w3 ⟨rfl, rfl⟩
       go_wp2_with fail
       refine (hst _ _ _ [92, 117, 48, 48] hB (by rw [List.length_cons]; omega) (by decide)).mono ?_
       rintro _ w4 ⟨rfl, b4, k4⟩
       go_wp2_with fail
       refine (hby _ _ _ g1 _ b4 (by rw [List.length_append, List.length_cons]; show _ + 4 < _; omega) rfl).mono ?_
       rintro _ w5 ⟨rfl, b5, k5⟩
       go_wp2_with fail
       refine (hby _ _ _ g2 _ b5 (by rw [List.length_append, List.length_append, List.length_cons]; show _ + 4 + 1 < _; omega) rfl).mono ?_
       rintro _ w6 ⟨rfl, b6, k6⟩
       go_wp2_with fail
       go_roundw
       case rel => exact ⟨k + 1, by omega, by go_num, by rw [hF.out]; rw [List.append_assoc, List.append_assoc] at b6; exact b6, hq.trans (((k4.trans k5).trans k6).mono hBw), by rw [hF.out, List.length_append]; show _ + 6 ≤ _; omega⟩
       case measure => simp [intOf]; omega
   · obtain rfl : k = l.length := by omega
     rw [List.take_of_length_le (Nat.le_refl _)] at hB hlen
     go_wp2_with fail
     refine (hby _ _ _ 34 _ hB (by rw [List.length_cons]; omega) rfl).mono ?_
     rintro _ w4 ⟨rfl, b4, k4⟩
     go_wp2_with fail
     refine (hsg _ _ _ b4).mono ?_
     rintro _ w5 ⟨rfl, k5⟩
     go_wp2_with fail
     go_ret2
     rw [hP.out]
     exact ⟨rfl, hq.trans ((k4.trans k5).mono hBw)⟩
end Go.Proofs.YtlfbnfphocpgeaaGreatDoor.Quo
