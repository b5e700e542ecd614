/- A part of what twice_holds leans on (its texts, put together). Nothing is claimed here. -/
import Derived.Test.YtlfbnfphocpgeaaGreatDoorTw28
import Derived.Test.YtlfbnfphocpgeaaGreatDoorTw30
import Derived.Test.YtlfbnfphocpgeaaGreatDoorTw35
namespace Go.Proofs.YtlfbnfphocpgeaaGreatDoor.Jenc
open Go.RowKit Kit Txt
open Tre (Val Whole Wholes HoldU HoldP HoldsP KsP At8 cellsV Fine count counts)
open Emb (Turn)
structure Env (B : Nat) (w : World) : Prop where
  utf : Utf.Laid w
  lt : 5 < B
  pow : Num.Pow w
  old : ∃ w0 : World, Num.Pow w0 ∧ w0.heap.size ≤ B
theorem Env.of {w : World} (h : Utf.Laid w) (hp : Num.Pow w) : Env w.heap.size w := ⟨h, h.lt, hp, w, hp, Nat.le_refl _⟩
theorem Env.step {B : Nat} {w w' : World} (h : Env B w) (k : Below B w w') : Env B w' := by
  obtain ⟨w0, p0, hz⟩ := h.old
  exact ⟨h.utf.below k h.lt, h.lt, p0.fence h.pow k hz, w0, p0, hz⟩
structure Printer (T : TypeId) (K : FuncId) (P B : Nat) (Gd : List (List UInt8) → Prop) (St : List (List UInt8) → World → Prop) : Prop where
  ahead : ∀ w, (nilAhead 344 T (.pointer (some ⟨P, 0, none⟩)) "tabularium/jenc.write").run Tryz.prog w = .ok (some false) w
  meth : ∀ w, (method 344 T (.pointer (some ⟨P, 0, none⟩)) "tabularium/jenc.write").run Tryz.prog w = .ok (K, .pointer (some ⟨P, 0, none⟩)) w
  call : ∀ (m : List UInt8) (w : World), (callFunc K #[.pointer (some ⟨P, 0, none⟩), .string (txt m)]).run Tryz.prog w = .ok (.enter K #[.pointer (some ⟨P, 0, none⟩), .string (txt m)]) w
  step : ∀ (ps : List (List UInt8)) (m : List UInt8) (w : World), St ps w → m.length ≤ 100000 → ps.length ≤ 100000 → Gd (ps ++ [m]) → Calls Tryz.prog K #[.pointer (some ⟨P, 0, none⟩), .string (txt m)] w fun e w' => e = .returned (.tuple #[]) ∧ St (ps ++ [m]) w' ∧ Turn B P w w'
  pre : ∀ a b : List (List UInt8), Gd (a ++ b) → Gd a
  keep : ∀ (ps : List (List UInt8)) (w w' : World), St ps w → Below w.heap.size w w' → St ps w'
  low : ∀ (ps : List (List UInt8)) (w : World), St ps w → B ≤ P ∧ B ≤ w.heap.size ∧ P < w.heap.size
set_option maxRecDepth 100000 in
theorem quoted_any {w : World} (ho : Utf.Laid w) {l : List UInt8} (hl : l.length < 100000) (hb : Utf.bad l = none) :
    Calls Tryz.prog 75 #[.string (txt l)] w fun e w' => e = .returned (.string (txt (Quo.print l))) ∧ Below w.heap.size w w' := by
  have hp := Quo.qprint_any ho hl
  rw [if_pos hb, if_pos hb] at hp
  have ht0 : (⟨#[]⟩ : ByteArray) = txt [] := rfl
  go_enter Tryz.func75, Tryz.ntmps75
  go_wp2_with fail
  refine hp.mono ?_
  rintro e w1 ⟨rfl, k1⟩
  go_wp2_with fail
  go_ret
  exact ⟨rfl, k1⟩
theorem HoldU.step {B : Nat} {w w' : World} {u : Value} {v : Val} (h : HoldU B w u v) (k : Below B w w') : HoldU B w' u v := by
  obtain ⟨cs, hu, hc⟩ := h
  exact ⟨cs, hu, HoldP.keep k.size (fun g hg _ => k.block g hg) v hc⟩
set_option maxRecDepth 100000 in
set_option maxHeartbeats 2000000 in
theorem putvalue_leaf {T : TypeId} {K : FuncId} {P B : Nat} {Gd : List (List UInt8) → Prop} {St : List (List UInt8) → World → Prop} (hp : Printer T K P B Gd St) {v : Val} (hv : Whole v) (hf : ∃ d, Fine d v) (h4 : v.kind < 5) {w : World} {u : Value} {ps : List (List UInt8)} (hu : HoldU B w u v) (hs : St ps w) (he : Env B w) (hn : ps.length ≤ 100000) (hg : Gd (ps ++ pcs v)) :
    Calls Tryz.prog 51 #[.iface T (.pointer (some ⟨P, 0, none⟩)), u] w fun e w' => e = .returned (.tuple #[]) ∧ St (ps ++ pcs v) w' ∧ Turn B P w w' := by
  obtain ⟨k, i, n, s, ks, vs⟩ := v
  obtain ⟨d, hf⟩ := hf
  rw [Fine] at hf
  obtain ⟨-, hsl, hdl, -, -⟩ := hf
  rw [Whole] at hv
  obtain ⟨⟨l1, l2, a2, a3, a4, a5, a6, hr, hbad, hlen, hkb, hnd⟩, hw⟩ := hv
  have l1 : 1 ≤ k := l1
  have h4 : k < 5 := h4
  have hr : Num.Right n := hr
  have hbad : Utf.bad s = none := hbad
  obtain ⟨cs, rfl, hc⟩ := hu
  rw [HoldP] at hc
  obtain ⟨uk, a, c, rfl, hk, -, -, -⟩ := hc
  obtain ⟨pk, ck, rfl, -, -, -⟩ := hk
  show Calls Tryz.prog 51 #[.iface T (.pointer (some ⟨P, 0, none⟩)), .agg #[.int .i64 k, .bool i, .bool n.neg, .string (txt n.dig), .int .i64 n.exp, .string (txt s), .slice pk ks.length ck, .slice a vs.length c]] w _
  have hna := hp.ahead
  have hme := hp.meth
  have hcl := hp.call
  obtain ⟨lB, lw, lP⟩ := hp.low _ _ hs
  have hA := World.alloc_heap_new w (.cells #[.int .i64 k, .bool i, .bool n.neg, .string (txt n.dig), .int .i64 n.exp, .string (txt s), .slice pk ks.length ck, .slice a vs.length c] 29)
  have bA : Below w.heap.size w (w.alloc (.cells #[.int .i64 k, .bool i, .bool n.neg, .string (txt n.dig), .int .i64 n.exp, .string (txt s), .slice pk ks.length ck, .slice a vs.length c] 29)) := (Below.refl _ w).alloc (Nat.le_refl _) _
  have hsA := hp.keep _ _ _ hs bA
  have tA : Turn B P w _ := .of_below bA lw
  have heA := he.step tA.1
  obtain ⟨c0, c1, c2, c3, c4, c5, c6, c7⟩ := Tre.eight hA
  have t1 : (⟨#[110, 117, 108, 108]⟩ : ByteArray) = txt [110, 117, 108, 108] := rfl
  by_cases h1 : k = 1
  · subst h1
    have hpc : pcs ⟨1, i, n, s, ks, vs⟩ = [[110, 117, 108, 108]] := by rw [pcs, if_pos rfl]
    have HP := Lib.hid hpc
    have HS := Lib.hid (hp.step ps [110, 117, 108, 108] _ hsA (by decide) hn (by rw [hpc] at hg; exact hg))
    have HT := Lib.hid tA
    clear hpc hs hsA tA heA he hr hbad a2 a3 a4 a5 a6 hlen hkb hnd hw bA hA
    go_enter Tryz.func51, Tryz.ntmps51
    go_wp2_with fail
    refine HS.out.mono ?_
    rintro e w2 ⟨rfl, h2, t2⟩
    go_wp2_with fail
    go_end0
    exact ⟨rfl, by rw [HP.out]; exact h2, HT.out.trans t2⟩
  by_cases h2 : k = 2
  · subst h2
    obtain ⟨m, hm⟩ : ∃ m : List UInt8, (if i then [116, 114, 117, 101] else [102, 97, 108, 115, 101]) = m := ⟨_, rfl⟩
    have hpc : pcs ⟨2, i, n, s, ks, vs⟩ = [m] := by rw [pcs, if_neg (by decide), if_pos rfl, hm]
    have hfb : ∀ wx : World, Calls Tryz.prog 73 #[.bool i] wx fun e w' => e = .returned (.string (txt m)) ∧ w' = wx := fun wx => by
      have := Tryz.strconv_FormatBool i wx
      rw [show (⟨(Lib.formatBool i).toArray⟩ : ByteArray) = txt m by rw [← hm]; cases i <;> decide +kernel] at this
      exact this
    have hml : m.length ≤ 100000 := by rw [← hm]; cases i <;> decide
    have HP := Lib.hid hpc
    have HS := Lib.hid fun (wx : World) (h : St ps wx) => hp.step ps m wx h hml hn (by rw [hpc] at hg; exact hg)
    have HT := Lib.hid tA
    have HSA := Lib.hid hsA
    have HKP := Lib.hid hp.keep
    have HLW := Lib.hid (show B ≤ (w.alloc (.cells #[.int .i64 2, .bool i, .bool n.neg, .string (txt n.dig), .int .i64 n.exp, .string (txt s), .slice pk ks.length ck, .slice a vs.length c] 29)).heap.size by simp; omega)
    clear hpc hs hsA tA he heA hr hbad a2 a3 a4 a5 a6 hlen hkb hnd hw hm hml hg bA hA
    go_enter Tryz.func51, Tryz.ntmps51
    go_upto_region 5 with fail
    go_region_with (first | (go_at_call 73; refine (hfb _).mono ?_; rintro e wx ⟨rfl, rfl⟩) | (refine (HS.out _ (HKP.out _ _ _ HSA.out (Below.refl _ _).drew)).mono ?_; rintro e wz ⟨rfl, h2, t2⟩))
    all_goals
      go_wp2_with fail
      go_end0
      exact ⟨rfl, by rw [HP.out]; exact h2, (HT.out.trans (.of_below (Below.refl _ _).drew HLW.out)).trans t2⟩
  by_cases h3 : k = 3
  · subst h3
    have hpc : pcs ⟨3, i, n, s, ks, vs⟩ = [Num.print n] := by rw [pcs, if_neg (by decide), if_neg (by decide), if_pos rfl]
    have hml : (Num.print n).length ≤ 100000 := by have := num_len (n := n) hr; omega
    have hpr : ∀ wx : World, Num.Pow wx → Calls Tryz.prog 74 #[.agg #[.bool n.neg, .string (txt n.dig), .int .i64 n.exp]] wx fun e w' => e = .returned (.string (txt (Num.print n))) ∧ Below wx.heap.size wx w' := fun wx h => Num.nprint_pow (w := wx) h (n := n) (by omega)
    have hpw := heA.pow.below (w' := (w.alloc (.cells #[.int .i64 3, .bool i, .bool n.neg, .string (txt n.dig), .int .i64 n.exp, .string (txt s), .slice pk ks.length ck, .slice a vs.length c] 29)).drew) (Below.refl _ _).drew
    have HP := Lib.hid hpc
    have HS := Lib.hid fun (wx : World) (h : St ps wx) => hp.step ps (Num.print n) wx h hml hn (by rw [hpc] at hg; exact hg)
    have HT := Lib.hid tA
    have HSA := Lib.hid hsA
    have HKP := Lib.hid hp.keep
    have HPR := Lib.hid hpr
    have HPW := Lib.hid hpw
    have HLW := Lib.hid (show B ≤ (w.alloc (.cells #[.int .i64 3, .bool i, .bool n.neg, .string (txt n.dig), .int .i64 n.exp, .string (txt s), .slice pk ks.length ck, .slice a vs.length c] 29)).heap.size by simp; omega)
    clear hpc hs hsA tA he heA hr hbad a2 a3 a4 a5 a6 hlen hkb hnd hw hml hg bA hA hpr hpw
    go_enter Tryz.func51, Tryz.ntmps51
    go_upto_region 7 with fail
    go_region_with (first | (go_at_call 74; refine (HPR.out _ HPW.out).mono ?_; rintro e wx ⟨rfl, kx⟩) | (refine (HS.out _ (HKP.out _ _ _ HSA.out ((Below.refl _ _).drew.trans kx))).mono ?_; rintro e wz ⟨rfl, h2, t2⟩))
    all_goals
      go_wp2_with fail
      go_end0
      exact ⟨rfl, by rw [HP.out]; exact h2, (HT.out.trans (.of_below ((Below.refl _ _).drew.trans kx) HLW.out)).trans t2⟩
  · obtain rfl : k = 4 := by omega
    have hpc : pcs ⟨4, i, n, s, ks, vs⟩ = [Quo.print s] := by rw [pcs, if_neg (by decide), if_neg (by decide), if_neg (by decide), if_pos rfl]
    have hml : (Quo.print s).length ≤ 100000 := by have := quo_len s; omega
    have hpr := fun (wx : World) (h : Utf.Laid wx) => quoted_any (w := wx) h (l := s) (by omega) hbad
    have hpw : Utf.Laid ((w.alloc (.cells #[.int .i64 4, .bool i, .bool n.neg, .string (txt n.dig), .int .i64 n.exp, .string (txt s), .slice pk ks.length ck, .slice a vs.length c] 29)).drew) := heA.utf.below ((Below.refl _ _).drew) heA.utf.lt
    have HP := Lib.hid hpc
    have HS := Lib.hid fun (wx : World) (h : St ps wx) => hp.step ps (Quo.print s) wx h hml hn (by rw [hpc] at hg; exact hg)
    have HT := Lib.hid tA
    have HSA := Lib.hid hsA
    have HKP := Lib.hid hp.keep
    have HPR := Lib.hid hpr
    have HPW := Lib.hid hpw
    have HLW := Lib.hid (show B ≤ (w.alloc (.cells #[.int .i64 4, .bool i, .bool n.neg, .string (txt n.dig), .int .i64 n.exp, .string (txt s), .slice pk ks.length ck, .slice a vs.length c] 29)).heap.size by simp; omega)
    clear hpc hs hsA tA he heA hr hbad a2 a3 a4 a5 a6 hlen hkb hnd hw hml hg bA hA hpr hpw
    go_enter Tryz.func51, Tryz.ntmps51
    go_upto_region 9 with fail
    go_region_with (first | (go_at_call 75; refine (HPR.out _ HPW.out).mono ?_; rintro e wx ⟨rfl, kx⟩) | (refine (HS.out _ (HKP.out _ _ _ HSA.out ((Below.refl _ _).drew.trans kx))).mono ?_; rintro e wz ⟨rfl, h2, t2⟩))
    all_goals
      go_wp2_with fail
      go_end0
      exact ⟨rfl, by rw [HP.out]; exact h2, (HT.out.trans (.of_below ((Below.refl _ _).drew.trans kx) HLW.out)).trans t2⟩
end Go.Proofs.YtlfbnfphocpgeaaGreatDoor.Jenc
namespace Go.Proofs.YtlfbnfphocpgeaaGreatDoor.Jenc
open Tre (Val Whole Wholes)
def bal : List (List UInt8) → Int
  | [] => 0
  | p :: r => (if opens p then 1 else 0) - (if shuts p then 1 else 0) + bal r
theorem bal_app : ∀ a b : List (List UInt8), bal (a ++ b) = bal a + bal b
  | [], b => by simp [bal]
  | p :: r, b => by rw [List.cons_append, bal, bal, bal_app r b]; omega
def Gdw (ps : List (List UInt8)) : Prop := ∀ a b, ps = a ++ b → 0 ≤ bal a
theorem Gdw.pre (a b : List (List UInt8)) (h : Gdw (a ++ b)) : Gdw a := fun x y e => h x (y ++ b) (by rw [e, List.append_assoc])
def Bal (ps : List (List UInt8)) : Prop := bal ps = 0 ∧ Gdw ps
theorem Bal.nil : Bal [] := ⟨rfl, fun a b e => by
  have : a = [] := (List.append_eq_nil_iff.1 e.symm).1
  rw [this]
  exact Int.le_refl _⟩
theorem Bal.one {p : List UInt8} (h1 : opens p = false) (h2 : shuts p = false) : Bal [p] := by
  refine ⟨by simp [bal, h1, h2], fun a b e => ?_⟩
  cases a with
  | nil => exact Int.le_refl _
  | cons x r =>
    injection e with e1 e2
    have : r = [] := (List.append_eq_nil_iff.1 e2.symm).1
    rw [this, ← e1]
    simp [bal, h1, h2]
theorem Bal.wrap {a : List (List UInt8)} (obj : Bool) (h : Bal a) : Bal ([opener obj] :: (a ++ [[Jdec.close obj]])) := by
  have o1 := opener_open obj
  have o2 := opener_shut obj
  have c1 : opens [Jdec.close obj] = false := by cases obj <;> decide
  have c2 := close_shut obj
  refine ⟨by simp [bal, bal_app, o1, o2, c1, c2, h.1], fun x y e => ?_⟩
  cases x with
  | nil => exact Int.le_refl _
  | cons p r =>
    injection e with e1 e2
    subst e1
    rw [bal, o1, o2]
    rcases List.append_eq_append_iff.1 e2 with ⟨z, e3, e4⟩ | ⟨z, e3, e4⟩
    · rw [e3, bal_app, h.1]
      cases z with
      | nil => simp [bal]
      | cons q s =>
        injection e4 with e5 e6
        have : s = [] := (List.append_eq_nil_iff.1 e6.symm).1
        rw [this, ← e5]
        simp [bal, c1, c2]
    · have := h.2 r z e3
      simp
      omega
def wf (ps : List (List UInt8)) : WS := wfold ⟨[], 0, []⟩ ps
end Go.Proofs.YtlfbnfphocpgeaaGreatDoor.Jenc
