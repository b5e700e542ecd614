/- The walk of JdecBlanks, over the contract of package jdec's Parse. Nothing is claimed here. -/
import Derived.Test.YtehpjidajmoggaaDoorJdecLawL
namespace Go.Proofs.YtehpjidajmoggaaDoor.Jdec
open Go.RowKit Kit Txt
open Tre (Val HoldF HoldV zeroV none' rsame_any)

theorem sl8 {l : List UInt8} {i j : Nat} (hi : i ≤ j) (hj : j ≤ l.length) (wx : World) : (Instr.slice 9 (.string (txt l)) (some (.int .u8 (i : Int))) (some (.int .u8 (j : Int))) none).run Tryd.prog wx = .ok (.string (txt ((l.drop i).take (j - i)))) wx := by
  have hs := txt_size l
  rw [run_slice_string (P := Tryd.prog) wx 9 (txt l) .u8 .u8 i j Tryd.underlying9 (by omega) (by omega) (by omega), txt_extract]
  simp
def fourL : List UInt8 := [32, 9, 13, 10]
theorem four_blank : ∀ r : _root_.Fin 4, blank (fourL.getD r.val 0) = true ∧ (fourL.drop r.val).take 1 = [fourL.getD r.val 0] := by decide +kernel

set_option maxRecDepth 100000 in
set_option maxHeartbeats 8000000 in
theorem blanks_any {w : World} {v : Value} {l : List Nat} (hl : l.length ≤ 1000) (h : Byt.Bs w v l) : Calls Tryd.prog 7 #[v] w fun e w' => (∃ b : List UInt8, e = .returned (.string (txt b)) ∧ b.length = l.length ∧ ∀ c ∈ b, blank c = true) ∧ Below w.heap.size w w' := by
  obtain ⟨h256, a, c, rfl, hc, hx⟩ := h
  have ht0 : (⟨#[]⟩ : ByteArray) = txt [] := rfl
  go_enter Tryd.func7, Tryd.ntmps7
  go_wp2_with fail
  go_loopw [3, 8] (fun s a wr => ∃ (j : Nat) (b : List UInt8), s = .string (txt b) ∧ a = .int .i64 j ∧ j ≤ l.length ∧ b.length = j ∧ (∀ c ∈ b, blank c = true) ∧ Below w.heap.size w wr) (fun _ a _ => l.length - (intOf a).toNat)
  case atStart => exact ⟨0, [], rfl, rfl, Nat.zero_le _, rfl, by simp, Below.refl _ _⟩
  case round =>
    obtain ⟨j, b, rfl, rfl, hj, hbl, hbb, bB⟩ := hrel
    by_cases hlt : j < l.length
    · have hlt1 : decide (j < l.length) = true := decide_eq_true hlt
      have hlt' : (j : Int) < (l.length : Int) := by omega
      rcases hx with rfl | ⟨g, off, rfl, hg, hx⟩
      · exact absurd hlt (Nat.not_lt_zero _)
      have hcell := (bB.cell (p := ⟨g, off + j, none⟩) hg).trans (hx j _ (List.getElem?_eq_getElem hlt))
      have h256j := h256 _ (List.getElem_mem hlt)
      generalize l[j] = x at *
      have wk : IntKind.i64.wrap ((j : Int) + 1) = (j : Int) + 1 := by simp only [IntKind.wrap, IntKind.signed, IntKind.bits]; simp; omega
      obtain ⟨hcb, hcd⟩ := four_blank ⟨x % 4, Nat.mod_lt _ (by decide)⟩
      dsimp only at hcb hcd
      generalize fourL.getD (x % 4) 0 = cc at *
      have hm1 : (x : Int) % 4 = ((x % 4 : Nat) : Int) := by omega
      have hm2 : (x : Int).tmod 4 = ((x % 4 : Nat) : Int) := by rw [Int.tmod_eq_emod_of_nonneg (by omega)]; omega
      have hex := txt_extract fourL (x % 4) (x % 4 + 1)
      rw [show x % 4 + 1 - x % 4 = 1 by omega, hcd] at hex
      have hz4 : (txt fourL).size = 4 := rfl
      have hr4 : x % 4 < 4 := Nat.mod_lt _ (by decide)
      have hr5 : ((x % 4 : Nat) : Int) + 1 ≤ 4 := by omega
      have hw8 : IntKind.u8.wrap (((x % 4 : Nat) : Int) + 1) = ((x % 4 + 1 : Nat) : Int) := by simp only [IntKind.wrap, IntKind.signed, IntKind.bits]; simp; omega
      have hadd := Txt.add_fit (a := b) (b := [cc]) (by omega) (by simp)
      have hat := Txt.add_txt b [cc]
      have htf : (⟨#[32, 9, 13, 10]⟩ : ByteArray) = txt fourL := rfl
      have fin : (b ++ [cc]).length = j + 1 ∧ ∀ c ∈ b ++ [cc], blank c = true := ⟨by simp [hbl], fun c hc => by
        rcases List.mem_append.1 hc with h | h
        · exact hbb c h
        · rw [List.mem_singleton.1 h]
          exact hcb⟩
      have HF := Lib.hid fin
      have hlx := Nat.lt_of_lt_of_le hg bB.size
      generalize x % 4 = r at *
      clear fin hbb hcb hcd h256 hx
      go_wp2_with fail
      go_roundw
      case rel => exact ⟨j + 1, b ++ [cc], by first | rfl | (rw [hex, hat]), by go_num, by omega, HF.out.1, HF.out.2, bB⟩
      case measure => simp [intOf]; omega
    · obtain rfl : j = l.length := by omega
      have hd : decide (l.length < l.length) = false := by simp
      have HB := Lib.hid hbb
      have HL := Lib.hid hbl
      clear hbb hbl hx h256
      go_wp2_with fail
      go_ret
      exact ⟨⟨b, rfl, HL.out, HB.out⟩, bB⟩

theorem ParseTold.form {s : List UInt8} {w : World} {e : Ending} {w' : World} (h : ParseTold s w e w') : ∃ (k : Int) (b : Bool) (n : Num.Dec) (t : List UInt8) (pk : Option Addr) (lk ck : Nat) (a : Option Addr) (lv c : Nat) (p ek : Int),
    e = .returned (.tuple #[.agg #[.int .i64 k, .bool b, .bool n.neg, .string (txt n.dig), .int .i64 n.exp, .string (txt t), .slice pk lk ck, .slice a lv c], .int .i64 p, .int .i64 ek]) := by
  obtain ⟨-, h⟩ := h
  cases hp : parse s with
  | ok v r =>
    rw [hp] at h
    obtain ⟨y, rfl, hy⟩ := h
    obtain ⟨pk, ck, a, c, rfl⟩ := holdF_form hy
    exact ⟨_, _, v.num, v.str, _, _, _, _, _, _, _, _, rfl⟩
  | no r k =>
    rw [hp] at h
    exact ⟨0, false, Num.zero, [], _, _, _, _, _, _, _, _, h⟩
theorem told_ok {s r : List UInt8} {v : Val} (hp : parse s = .ok v r) {w : World} {e : Ending} {w' : World} (h : ParseTold s w e w') : (∃ (pk ak : Option Addr) (ck cc : Nat), e = .returned (.tuple #[.agg #[.int .i64 v.kind, .bool v.is, .bool v.num.neg, .string (txt v.num.dig), .int .i64 v.num.exp, .string (txt v.str), .slice pk v.keys.length ck, .slice ak v.kids.length cc], .int .i64 (-1), .int .i64 0]) ∧ HoldV w' (.agg #[.int .i64 v.kind, .bool v.is, .bool v.num.neg, .string (txt v.num.dig), .int .i64 v.num.exp, .string (txt v.str), .slice pk v.keys.length ck, .slice ak v.kids.length cc]) v) ∧ Below w.heap.size w w' := by
  obtain ⟨k, h⟩ := h
  rw [hp] at h
  obtain ⟨y, rfl, hy⟩ := h
  obtain ⟨pk, ck, a, c, rfl⟩ := holdF_form hy
  exact ⟨⟨_, _, _, _, rfl, hy.hold⟩, k⟩
theorem told_no {s r : List UInt8} {n : Nat} (hp : parse s = .no r n) {w : World} {e : Ending} {w' : World} (h : ParseTold s w e w') : e = .returned (.tuple #[zeroV, .int .i64 ((s.length - r.length : Nat) : Int), .int .i64 n]) ∧ Below w.heap.size w w' := by
  obtain ⟨k, h⟩ := h
  rw [hp] at h
  exact ⟨h, k⟩

set_option maxRecDepth 100000 in
set_option maxHeartbeats 8000000 in
theorem blanks_law {w : World} (ho : Ok w) {s : List UInt8} {a b : Option Addr} {n m ca cb : Nat} {la lb : List Nat} (hla : la.length = n) (hlb : lb.length = m) (ha : Byt.Bs w (.slice a n ca) la) (hb : Byt.Bs w (.slice b m cb) lb) :
    Calls Tryd.prog 3 #[.string (txt s), .slice a n ca, .slice b m cb] w fun e w' => e = .returned (.bool true) ∧ Below w.heap.size w w' := by
  have hw := Lib.hid (wakes_any ho)
  have hz := txt_size s
  by_cases hg : 1500 < s.length ∨ 50 < n ∨ 50 < m
  · by_cases g1 : 1500 < s.length
    · have d1 : decide (1500 < s.length) = true := decide_eq_true g1
      have d2 : decide ((1500 : Int) < (s.length : Int)) = true := decide_eq_true (by omega)
      have d3 : (1500 : Int) < (s.length : Int) := by omega
      go_enter Tryd.func3, Tryd.ntmps3
      go_wp2_with fail
      refine hw.out.mono ?_
      rintro e w1 ⟨rfl, k1⟩
      go_wp2_with fail
      go_ret
      exact ⟨rfl, k1⟩
    · have d1 : decide (1500 < s.length) = false := decide_eq_false g1
      have d2 : decide ((1500 : Int) < (s.length : Int)) = false := decide_eq_false (by omega)
      have d3 : ¬ (1500 : Int) < (s.length : Int) := by omega
      by_cases g2 : 50 < n
      · have e1 : decide (50 < n) = true := decide_eq_true g2
        have e2 : decide ((50 : Int) < (n : Int)) = true := decide_eq_true (by omega)
        have e3 : (50 : Int) < (n : Int) := by omega
        go_enter Tryd.func3, Tryd.ntmps3
        go_wp2_with fail
        refine hw.out.mono ?_
        rintro e w1 ⟨rfl, k1⟩
        go_wp2_with fail
        go_ret
        exact ⟨rfl, k1⟩
      · have g3 : 50 < m := by omega
        have e1 : decide (50 < n) = false := decide_eq_false g2
        have e2 : decide ((50 : Int) < (n : Int)) = false := decide_eq_false (by omega)
        have e3 : ¬ (50 : Int) < (n : Int) := by omega
        have f1 : decide (50 < m) = true := decide_eq_true g3
        have f2 : decide ((50 : Int) < (m : Int)) = true := decide_eq_true (by omega)
        have f3 : (50 : Int) < (m : Int) := by omega
        go_enter Tryd.func3, Tryd.ntmps3
        go_wp2_with fail
        refine hw.out.mono ?_
        rintro e w1 ⟨rfl, k1⟩
        go_wp2_with fail
        go_ret
        exact ⟨rfl, k1⟩
  have g1 : ¬ 1500 < s.length := by omega
  have g2 : ¬ 50 < n := by omega
  have g3 : ¬ 50 < m := by omega
  have d1 : decide (1500 < s.length) = false := decide_eq_false g1
  have d2 : decide ((1500 : Int) < (s.length : Int)) = false := decide_eq_false (by omega)
  have d3 : ¬ (1500 : Int) < (s.length : Int) := by omega
  have e1 : decide (50 < n) = false := decide_eq_false g2
  have e2 : decide ((50 : Int) < (n : Int)) = false := decide_eq_false (by omega)
  have e3 : ¬ (50 : Int) < (n : Int) := by omega
  have f1 : decide (50 < m) = false := decide_eq_false g3
  have f2 : decide ((50 : Int) < (m : Int)) = false := decide_eq_false (by omega)
  have f3 : ¬ (50 : Int) < (m : Int) := by omega
  clear hg
  have HA := Lib.hid (fun (wx : World) (hk : Below w.heap.size w wx) => blanks_any (w := wx) (by omega) (ha.below hk))
  have HB := Lib.hid (fun (wx : World) (hk : Below w.heap.size w wx) => blanks_any (w := wx) (by omega) (hb.below hk))
  have HLA := Lib.hid hla
  have HLB := Lib.hid hlb
  clear ha hb hla hlb
  have HP := Lib.hid (fun (wx : World) (l : List UInt8) (hl : l.length < 100000) (h : Ok wx) => jparse_all (w := wx) (s := l) hl h)
  have HS := Lib.hid (fun (wx : World) (y1 y2 : Value) (v : Val) (h1 : HoldV wx y1 v) (h2 : HoldV wx y2 v) => same_true h1 h2 rfl)
  have HSZ := Lib.hid (fun (wx : World) => same_true (zero_hold wx) (zero_hold wx) rfl)
  unfold zeroV at HSZ
  have hgood := parse_good s
  cases hp : parse s with
  | no r k =>
    rw [hp] at hgood
    have hrl := hgood.1.length_le
    have hk0 : k ≠ 0 := hgood.2
    have q1 : (((k : Nat) : Int) == 0) = false := by simpa using hk0
    have q2 : (((k : Nat) : Int) != 0) = true := by simpa using hk0
    have HPP := Lib.hid hp
    clear hgood hp hk0
    go_enter Tryd.func3, Tryd.ntmps3
    go_wp2_with fail
    refine hw.out.mono ?_
    rintro e w1 ⟨rfl, k1⟩
    go_wp2_with fail
    refine (HP.out w1 s (by omega) (ho.below k1)).mono ?_
    rintro e w2 hT
    obtain ⟨rfl, k2⟩ := told_no HPP.out hT
    have b2 := k1.trans (k2.mono k1.size)
    have b3 := b2.alloc b2.size (.cells #[.int .i64 0, .bool false, .bool false, .string ⟨#[]⟩, .int .i64 0, .string ⟨#[]⟩, .slice none 0 0, .slice none 0 0] 29)
    have hA := World.alloc_heap_new w2 (.cells #[.int .i64 0, .bool false, .bool false, .string ⟨#[]⟩, .int .i64 0, .string ⟨#[]⟩, .slice none 0 0, .slice none 0 0] 29)
    have HB3 := Lib.hid b3
    have HA3 := Lib.hid hA
    unfold zeroV
    clear hT k1 k2 b2 b3 hA
    go_wp2_with fail
    refine (HA.out _ HB3.out).mono ?_
    rintro e w4 ⟨⟨ba, rfl, hba, hbb⟩, k4⟩
    have hA4 := (k4.block _ (by simp)).trans HA3.out
    have b4 := HB3.out.trans (k4.mono HB3.out.size)
    have hadd := Txt.add_fit (a := ba) (b := s) (by have := HLA.out; omega) (by omega)
    have hat := Txt.add_txt ba s
    have hp2 : parse (ba ++ s) = .no r k := (parse_ahead hbb s).trans HPP.out
    have hl2 : (ba ++ s).length = n + s.length := by rw [List.length_append, hba, HLA.out]
    have HA4 := Lib.hid hA4
    have HB4 := Lib.hid b4
    have HP2 := Lib.hid hp2
    have HL2 := Lib.hid hl2
    clear k4 hA4 b4 hp2 hl2 hba hbb
    generalize ba ++ s = bs at *
    go_wp2_with fail
    refine (HP.out w4 bs (by have := HL2.out; omega) (ho.below HB4.out)).mono ?_
    rintro e w5 hT
    obtain ⟨rfl, k5⟩ := told_no HP2.out hT
    have hA5 := (k5.block _ (lt_of_heap HA4.out)).trans HA4.out
    have b5 := HB4.out.trans (k5.mono HB4.out.size)
    have b6 := b5.alloc b5.size (.cells #[.int .i64 0, .bool false, .bool false, .string ⟨#[]⟩, .int .i64 0, .string ⟨#[]⟩, .slice none 0 0, .slice none 0 0] 29)
    have hA6 := new_of hA5 (.cells #[.int .i64 0, .bool false, .bool false, .string ⟨#[]⟩, .int .i64 0, .string ⟨#[]⟩, .slice none 0 0, .slice none 0 0] 29)
    have hC6 := World.alloc_heap_new w5 (.cells #[.int .i64 0, .bool false, .bool false, .string ⟨#[]⟩, .int .i64 0, .string ⟨#[]⟩, .slice none 0 0, .slice none 0 0] 29)
    have hon : (((bs.length - r.length : Nat) : Int)) = ((s.length - r.length : Nat) : Int) + (n : Int) := by have := HL2.out; omega
    have HB6 := Lib.hid b6
    have HA6 := Lib.hid hA6
    have HC6 := Lib.hid hC6
    have HON := Lib.hid hon
    unfold zeroV
    clear hT k5 hA5 b5 b6 hA6 hC6 hon hadd hat
    go_wp2_with fail
    refine (HB.out _ HB6.out).mono ?_
    rintro e w7 ⟨⟨bb, rfl, hbl, -⟩, k7⟩
    have hA7 := (k7.block _ (lt_of_heap HA6.out)).trans HA6.out
    have hC7 := (k7.block _ (by simp)).trans HC6.out
    have b7 := HB6.out.trans (k7.mono HB6.out.size)
    have hadd := Txt.add_fit (a := s) (b := bb) (by omega) (by have := HLB.out; omega)
    have hat := Txt.add_txt s bb
    have hl3 : (s ++ bb).length < 100000 := by rw [List.length_append, hbl]; have := HLB.out; omega
    have HA7 := Lib.hid hA7
    have HC7 := Lib.hid hC7
    have HB7 := Lib.hid b7
    have HL3 := Lib.hid hl3
    clear k7 hA7 hC7 b7 hl3 hbl
    generalize s ++ bb = sb at *
    go_wp2_with fail
    refine (HP.out w7 sb HL3.out (ho.below HB7.out)).mono ?_
    rintro e w8 hT
    have k8 := hT.1
    obtain ⟨k0, b0, n0, t0, pk, lk, ck, ak, lv, cc, p0, ek, rfl⟩ := hT.form
    have hA8 := new_of ((k8.block _ (lt_of_heap HA7.out)).trans HA7.out) (.cells #[.int .i64 k0, .bool b0, .bool n0.neg, .string (txt n0.dig), .int .i64 n0.exp, .string (txt t0), .slice pk lk ck, .slice ak lv cc] 29)
    have hC8 := new_of ((k8.block _ (lt_of_heap HC7.out)).trans HC7.out) (.cells #[.int .i64 k0, .bool b0, .bool n0.neg, .string (txt n0.dig), .int .i64 n0.exp, .string (txt t0), .slice pk lk ck, .slice ak lv cc] 29)
    have b8 := HB7.out.trans (k8.mono HB7.out.size)
    have b9 := b8.alloc b8.size (.cells #[.int .i64 k0, .bool b0, .bool n0.neg, .string (txt n0.dig), .int .i64 n0.exp, .string (txt t0), .slice pk lk ck, .slice ak lv cc] 29)
    obtain ⟨a0, a1, a2, a3, a4, a5, a6, a7⟩ := eight hA8
    obtain ⟨c0, c1, c2, c3, c4, c5, c6, c7⟩ := eight hC8
    have l1 := lt_of_heap ((k8.block _ (lt_of_heap HA7.out)).trans HA7.out)
    have l2 := lt_of_heap ((k8.block _ (lt_of_heap HC7.out)).trans HC7.out)
    have HB9 := Lib.hid b9
    clear hT k8 b8 b9 hA8 hC8 hadd hat
    have hsum : IntKind.i64.wrap (((s.length - r.length : Nat) : Int) + (n : Int)) = ((s.length - r.length : Nat) : Int) + (n : Int) := by
      have : s.length - r.length ≤ s.length := Nat.sub_le _ _
      simp only [IntKind.wrap, IntKind.signed, IntKind.bits]; simp; omega
    have heq : ((((bs.length - r.length : Nat) : Int)) == ((s.length - r.length : Nat) : Int) + (n : Int)) = true := by rw [HON.out]; simp
    generalize s.length - r.length = P at *
    generalize bs.length - r.length = Q at *
    have hkk : (((k : Nat) : Int) != ((k : Nat) : Int)) = false := by simp
    go_wp2_with fail
    refine (HSZ.out _).mono ?_
    rintro e w9 ⟨rfl, k9⟩
    have b10 := HB9.out.trans (k9.mono HB9.out.size)
    have HB10 := Lib.hid b10
    clear k9 b10 a0 a1 a2 a3 a4 a5 a6 a7 c0 c1 c2 c3 c4 c5 c6 c7
    go_wp2_with fail
    go_ret
    exact ⟨rfl, HB10.out⟩
  | ok v r =>
    have HPP := Lib.hid hp
    have hpb := fun (bb : List UInt8) (hb : ∀ c ∈ bb, blank c = true) => parse_behind hp hb
    have HPB := Lib.hid hpb
    clear hgood hp hpb
    go_enter Tryd.func3, Tryd.ntmps3
    go_wp2_with fail
    refine hw.out.mono ?_
    rintro e w1 ⟨rfl, k1⟩
    go_wp2_with fail
    refine (HP.out w1 s (by omega) (ho.below k1)).mono ?_
    rintro e w2 hT
    obtain ⟨⟨pk1, ak1, ck1, cc1, rfl, hv1⟩, k2⟩ := told_ok HPP.out hT
    generalize hlk : v.keys.length = lk at *
    generalize hlv : v.kids.length = lv at *
    have HLK := Lib.hid hlk
    have HLV := Lib.hid hlv
    have b2 := k1.trans (k2.mono k1.size)
    have b3 := b2.alloc b2.size (.cells #[.int .i64 v.kind, .bool v.is, .bool v.num.neg, .string (txt v.num.dig), .int .i64 v.num.exp, .string (txt v.str), .slice pk1 lk ck1, .slice ak1 lv cc1] 29)
    have hA := World.alloc_heap_new w2 (.cells #[.int .i64 v.kind, .bool v.is, .bool v.num.neg, .string (txt v.num.dig), .int .i64 v.num.exp, .string (txt v.str), .slice pk1 lk ck1, .slice ak1 lv cc1] 29)
    have hv1' := hv1.below ((Below.refl _ w2).alloc (Nat.le_refl _) (.cells #[.int .i64 v.kind, .bool v.is, .bool v.num.neg, .string (txt v.num.dig), .int .i64 v.num.exp, .string (txt v.str), .slice pk1 lk ck1, .slice ak1 lv cc1] 29))
    have HB3 := Lib.hid b3
    have HA3 := Lib.hid hA
    have HV1 := Lib.hid hv1'
    clear hT k1 k2 b2 b3 hA hlk hlv hv1 hv1'
    go_wp2_with fail
    refine (HA.out _ HB3.out).mono ?_
    rintro e w4 ⟨⟨ba, rfl, hba, hbb⟩, k4⟩
    have hA4 := (k4.block _ (by simp)).trans HA3.out
    have b4 := HB3.out.trans (k4.mono HB3.out.size)
    have hv4 := HV1.out.below k4
    have hadd := Txt.add_fit (a := ba) (b := s) (by have := HLA.out; omega) (by omega)
    have hat := Txt.add_txt ba s
    have hp2 : parse (ba ++ s) = .ok v r := (parse_ahead hbb s).trans HPP.out
    have hl2 : (ba ++ s).length < 100000 := by rw [List.length_append, hba, HLA.out]; omega
    have HA4 := Lib.hid hA4
    have HB4 := Lib.hid b4
    have HP2 := Lib.hid hp2
    have HL2 := Lib.hid hl2
    have HV4 := Lib.hid hv4
    clear k4 hA4 b4 hp2 hl2 hba hbb hv4
    generalize ba ++ s = bs at *
    go_wp2_with fail
    refine (HP.out w4 bs HL2.out (ho.below HB4.out)).mono ?_
    rintro e w5 hT
    obtain ⟨⟨pk2, ak2, ck2, cc2, rfl, hv2⟩, k5⟩ := told_ok HP2.out hT
    rw [HLK.out, HLV.out] at hv2 ⊢
    have hA5 := (k5.block _ (lt_of_heap HA4.out)).trans HA4.out
    have b5 := HB4.out.trans (k5.mono HB4.out.size)
    have b6 := b5.alloc b5.size (.cells #[.int .i64 v.kind, .bool v.is, .bool v.num.neg, .string (txt v.num.dig), .int .i64 v.num.exp, .string (txt v.str), .slice pk2 lk ck2, .slice ak2 lv cc2] 29)
    have bx := (Below.refl _ w5).alloc (Nat.le_refl _) (.cells #[.int .i64 v.kind, .bool v.is, .bool v.num.neg, .string (txt v.num.dig), .int .i64 v.num.exp, .string (txt v.str), .slice pk2 lk ck2, .slice ak2 lv cc2] 29)
    have hA6 := new_of hA5 (.cells #[.int .i64 v.kind, .bool v.is, .bool v.num.neg, .string (txt v.num.dig), .int .i64 v.num.exp, .string (txt v.str), .slice pk2 lk ck2, .slice ak2 lv cc2] 29)
    have hC6 := World.alloc_heap_new w5 (.cells #[.int .i64 v.kind, .bool v.is, .bool v.num.neg, .string (txt v.num.dig), .int .i64 v.num.exp, .string (txt v.str), .slice pk2 lk ck2, .slice ak2 lv cc2] 29)
    have hv6 := (HV4.out.below k5).below bx
    have hv26 := hv2.below bx
    have HB6 := Lib.hid b6
    have HA6 := Lib.hid hA6
    have HC6 := Lib.hid hC6
    have HV6 := Lib.hid hv6
    have HV26 := Lib.hid hv26
    clear hT k5 hA5 b5 b6 hA6 hC6 hadd hat hv2 hv6 hv26 bx
    go_wp2_with fail
    refine (HB.out _ HB6.out).mono ?_
    rintro e w7 ⟨⟨bb, rfl, hbl, hbbb⟩, k7⟩
    have hA7 := (k7.block _ (lt_of_heap HA6.out)).trans HA6.out
    have hC7 := (k7.block _ (by simp)).trans HC6.out
    have b7 := HB6.out.trans (k7.mono HB6.out.size)
    have hv7 := HV6.out.below k7
    have hv27 := HV26.out.below k7
    have hadd := Txt.add_fit (a := s) (b := bb) (by omega) (by have := HLB.out; omega)
    have hat := Txt.add_txt s bb
    have hp3 := HPB.out bb hbbb
    have hl3 : (s ++ bb).length < 100000 := by rw [List.length_append, hbl]; have := HLB.out; omega
    have HA7 := Lib.hid hA7
    have HC7 := Lib.hid hC7
    have HB7 := Lib.hid b7
    have HL3 := Lib.hid hl3
    have HP3 := Lib.hid hp3
    have HV7 := Lib.hid hv7
    have HV27 := Lib.hid hv27
    clear k7 hA7 hC7 b7 hl3 hbl hbbb hp3 hv7 hv27
    generalize s ++ bb = sb at *
    go_wp2_with fail
    refine (HP.out w7 sb HL3.out (ho.below HB7.out)).mono ?_
    rintro e w8 hT
    obtain ⟨⟨pk3, ak3, ck3, cc3, rfl, hv3⟩, k8⟩ := told_ok HP3.out hT
    rw [HLK.out, HLV.out] at hv3 ⊢
    have hA8 := new_of ((k8.block _ (lt_of_heap HA7.out)).trans HA7.out) (.cells #[.int .i64 v.kind, .bool v.is, .bool v.num.neg, .string (txt v.num.dig), .int .i64 v.num.exp, .string (txt v.str), .slice pk3 lk ck3, .slice ak3 lv cc3] 29)
    have hC8 := new_of ((k8.block _ (lt_of_heap HC7.out)).trans HC7.out) (.cells #[.int .i64 v.kind, .bool v.is, .bool v.num.neg, .string (txt v.num.dig), .int .i64 v.num.exp, .string (txt v.str), .slice pk3 lk ck3, .slice ak3 lv cc3] 29)
    have hD8 := World.alloc_heap_new w8 (.cells #[.int .i64 v.kind, .bool v.is, .bool v.num.neg, .string (txt v.num.dig), .int .i64 v.num.exp, .string (txt v.str), .slice pk3 lk ck3, .slice ak3 lv cc3] 29)
    have b8 := HB7.out.trans (k8.mono HB7.out.size)
    have b9 := b8.alloc b8.size (.cells #[.int .i64 v.kind, .bool v.is, .bool v.num.neg, .string (txt v.num.dig), .int .i64 v.num.exp, .string (txt v.str), .slice pk3 lk ck3, .slice ak3 lv cc3] 29)
    have bx := (Below.refl _ w8).alloc (Nat.le_refl _) (.cells #[.int .i64 v.kind, .bool v.is, .bool v.num.neg, .string (txt v.num.dig), .int .i64 v.num.exp, .string (txt v.str), .slice pk3 lk ck3, .slice ak3 lv cc3] 29)
    have hv8 := (HV7.out.below k8).below bx
    have hv28 := (HV27.out.below k8).below bx
    have hv38 := hv3.below bx
    obtain ⟨a0, a1, a2, a3, a4, a5, a6, a7⟩ := eight hA8
    obtain ⟨c0, c1, c2, c3, c4, c5, c6, c7⟩ := eight hC8
    have HA8 := Lib.hid hA8
    have HD8 := Lib.hid hD8
    have HB9 := Lib.hid b9
    have HV8 := Lib.hid hv8
    have HV28 := Lib.hid hv28
    have HV38 := Lib.hid hv38
    have l1 := lt_of_heap ((k8.block _ (lt_of_heap HA7.out)).trans HA7.out)
    have l2 := lt_of_heap ((k8.block _ (lt_of_heap HC7.out)).trans HC7.out)
    clear hT k8 b8 b9 hA8 hC8 hD8 hadd hat hv3 hv8 hv28 hv38 bx
    go_wp2_with fail
    refine (HS.out _ _ _ v HV8.out HV28.out).mono ?_
    rintro e w9 ⟨rfl, k9⟩
    have b10 := HB9.out.trans (k9.mono HB9.out.size)
    have hv10 := HV8.out.below k9
    have hv310 := HV38.out.below k9
    have hA10 := (k9.block _ (lt_of_heap HA8.out)).trans HA8.out
    have hD10 := (k9.block _ (lt_of_heap HD8.out)).trans HD8.out
    clear a0 a1 a2 a3 a4 a5 a6 a7 c0 c1 c2 c3 c4 c5 c6 c7
    obtain ⟨a0, a1, a2, a3, a4, a5, a6, a7⟩ := eight hA10
    obtain ⟨c0, c1, c2, c3, c4, c5, c6, c7⟩ := eight hD10
    have HB10 := Lib.hid b10
    have HV10 := Lib.hid hv10
    have HV310 := Lib.hid hv310
    clear k9 b10 hv10 hv310 hA10 hD10
    go_wp2_with fail
    refine (HS.out _ _ _ v HV10.out HV310.out).mono ?_
    rintro e w11 ⟨rfl, k11⟩
    have b12 := HB10.out.trans (k11.mono HB10.out.size)
    have HB12 := Lib.hid b12
    clear k11 b12 a0 a1 a2 a3 a4 a5 a6 a7 c0 c1 c2 c3 c4 c5 c6 c7
    go_wp2_with fail
    go_ret
    exact ⟨rfl, HB12.out⟩
theorem blanks_text {w : World} {s : ByteArray} (ho : Ok w) {a b : Option Addr} {n m ca cb : Nat} {la lb : List Nat} (hla : la.length = n) (hlb : lb.length = m) (ha : Byt.Bs w (.slice a n ca) la) (hb : Byt.Bs w (.slice b m cb) lb) :
    Calls Tryd.prog 3 #[.string s, .slice a n ca, .slice b m cb] w fun e w' => e = .returned (.bool true) ∧ Below w.heap.size w w' := by
  have := blanks_law (s := s.data.toList) ho hla hlb ha hb
  rwa [← txt_data] at this
end Go.Proofs.YtehpjidajmoggaaDoor.Jdec
