/- A part of what is_holds leans on (its texts, put together). Nothing is claimed here. -/
import Derived.Test.YtlfbnfphocpgeaaGreatDoorIs14
import Derived.Test.YtlfbnfphocpgeaaGreatDoorIs28
import Derived.Test.YtlfbnfphocpgeaaGreatDoorIs30
namespace Go.Proofs.YtlfbnfphocpgeaaGreatDoor.Jenc
open Go.RowKit Kit Txt
open Tre (Val Whole Wholes HoldU HoldP HoldsP KsP At8 cellsV Fine count counts)
open Emb (Turn)
structure Env (B : Nat) (w : World) : Prop where
 utf : Utf.Laid w
 lt : 5 < B
 pow : Num.Pow w
 old : ∃ w0 : World, Num.Pow w0 ∧ w0.heap.size ≤ B
theorem Env.of {w : World} (h : Utf.Laid w) (hp : Num.Pow w) : Env w.heap.size w := ⟨h, h.lt, hp, w, hp, Nat.le_refl _⟩
theorem Env.step {B : Nat} {w w' : World} (h : Env B w) (k : Below B w w') : Env B w' := by
 obtain ⟨w0, p0, hz⟩ := h.old
 exact ⟨h.utf.below k h.lt, h.lt, p0.fence h.pow k hz, w0, p0, hz⟩
structure Printer (T : TypeId) (K : FuncId) (P B : Nat) (Gd : List (List UInt8) → Prop) (St : List (List UInt8) → World → Prop) : Prop where
 ahead : ∀ w, (nilAhead 344 T (.pointer (some ⟨P, 0, none⟩)) "tabularium/jenc.write").run Tryz.prog w = .ok (some false) w
 meth : ∀ w, (method 344 T (.pointer (some ⟨P, 0, none⟩)) "tabularium/jenc.write").run Tryz.prog w = .ok (K, .pointer (some ⟨P, 0, none⟩)) w
 call : ∀ (m : List UInt8) (w : World), (callFunc K #[.pointer (some ⟨P, 0, none⟩), .string (txt m)]).run Tryz.prog w = .ok (.enter K #[.pointer (some ⟨P, 0, none⟩), .string (txt m)]) w
 step : ∀ (ps : List (List UInt8)) (m : List UInt8) (w : World), St ps w → m.length ≤ 100000 → ps.length ≤ 100000 → Gd (ps ++ [m]) → Calls Tryz.prog K #[.pointer (some ⟨P, 0, none⟩), .string (txt m)] w fun e w' => e = .returned (.tuple #[]) ∧ St (ps ++ [m]) w' ∧ Turn B P w w'
 pre : ∀ a b : List (List UInt8), Gd (a ++ b) → Gd a
 keep : ∀ (ps : List (List UInt8)) (w w' : World), St ps w → Below w.heap.size w w' → St ps w'
 low : ∀ (ps : List (List UInt8)) (w : World), St ps w → B ≤ P ∧ B ≤ w.heap.size ∧ P < w.heap.size
set_option maxRecDepth 100000 in
theorem quoted_any {w : World} (ho : Utf.Laid w) {l : List UInt8} (hl : l.length < 100000) (hb : Utf.bad l = none) :
   Calls Tryz.prog 75 #[.string (txt l)] w fun e w' => e = .returned (.string (txt (Quo.print l))) ∧ Below w.heap.size w w' := by
 have hp := Quo.qprint_any ho hl
 rw [if_pos hb, if_pos hb] at hp
 have ht0 : (⟨#[]⟩ : ByteArray) = txt [] := rfl
 go_enter Tryz.func75, Tryz.ntmps75
 go_wp2_with fail
 refine hp.mono ?_
 rintro e w1 ⟨rfl, k1⟩
 go_wp2_with fail
 go_ret
 exact ⟨rfl, k1⟩
theorem HoldU.step {B : Nat} {w w' : World} {u : Value} {v : Val} (h : HoldU B w u v) (k : Below B w w') : HoldU B w' u v := by
 obtain ⟨cs, hu, hc⟩ := h
 exact ⟨cs, hu, HoldP.keep k.size (fun g hg _ => k.block g hg) v hc⟩
set_option maxRecDepth 100000 in
set_option maxHeartbeats 2000000 in
theorem putvalue_leaf {T : TypeId} {K : FuncId} {P B : Nat} {Gd : List (List UInt8) → Prop} {St : List (List UInt8) → World → Prop} (hp : Printer T K P B Gd St) {v : Val} (hv : Whole v) (hf : ∃ d, Fine d v) (h4 : v.kind < 5) {w : World} {u : Value} {ps : List (List UInt8)} (hu : HoldU B w u v) (hs : St ps w) (he : Env B w) (hn : ps.length ≤ 100000) (hg : Gd (ps ++ pcs v)) :
   Calls Tryz.prog 51 #[.iface T (.pointer (some ⟨P, 0, none⟩)), u] w fun e w' => e = .returned (.tuple #[]) ∧ St (ps ++ pcs v) w' ∧ Turn B P w w' := by
 obtain ⟨k, i, n, s, ks, vs⟩ := v
 obtain ⟨d, hf⟩ := hf
 rw [Fine] at hf
 obtain ⟨-, hsl, hdl, -, -⟩ := hf
 rw [Whole] at hv
 obtain ⟨⟨l1, l2, a2, a3, a4, a5, a6, hr, hbad, hlen, hkb, hnd⟩, hw⟩ := hv
 have l1 : 1 ≤ k := l1
 have h4 : k < 5 := h4
 have hr : Num.Right n := hr
 have hbad : Utf.bad s = none := hbad
 obtain ⟨cs, rfl, hc⟩ := hu
 rw [HoldP] at hc
 obtain ⟨uk, a, c, rfl, hk, -, -, -⟩ := hc
 obtain ⟨pk, ck, rfl, -, -, -⟩ := hk
 show Calls Tryz.prog 51 #[.iface T (.pointer (some ⟨P, 0, none⟩)), .agg #[.int .i64 k, .bool i, .bool n.neg, .string (txt n.dig), .int .i64 n.exp, .string (txt s), .slice pk ks.length ck, .slice a vs.length c]] w _
 have hna := hp.ahead
 have hme := hp.meth
 have hcl := hp.call
 obtain ⟨lB, lw, lP⟩ := hp.low _ _ hs
 have hA := World.alloc_heap_new w (.cells #[.int .i64 k, .bool i, .bool n.neg, .string (txt n.dig), .int .i64 n.exp, .string (txt s), .slice pk ks.length ck, .slice a vs.length c] 29)
 have bA : Below w.heap.size w (w.alloc (.cells #[.int .i64 k, .bool i, .bool n.neg, .string (txt n.dig), .int .i64 n.exp, .string (txt s), .slice pk ks.length ck, .slice a vs.length c] 29)) := (Below.refl _ w).alloc (Nat.le_refl _) _
 have hsA := hp.keep _ _ _ hs bA
 have tA : Turn B P w _ := .of_below bA lw
 have heA := he.step tA.1
 obtain ⟨c0, c1, c2, c3, c4, c5, c6, c7⟩ := Tre.eight hA
 have t1 : (⟨#[110, 117, 108, 108]⟩ : ByteArray) = txt [110, 117, 108, 108] := rfl
 by_cases h1 : k = 1
 · subst h1
   have hpc : pcs ⟨1, i, n, s, ks, vs⟩ = [[110, 117, 108, 108]] := by rw [pcs, if_pos rfl]
   have HP := Lib.hid hpc
   have HS := Lib.hid (hp.step ps [110, 117, 108, 108] _ hsA (by decide) hn (by rw [hpc] at hg; exact hg))
   have HT := Lib.hid tA
   clear hpc hs hsA tA heA he hr hbad a2 a3 a4 a5 a6 hlen hkb hnd hw bA hA
   go_enter Tryz.func51, Tryz.ntmps51
   go_wp2_with fail
   refine HS.out.mono ?_
   rintro e w2 ⟨rfl, h2, t2⟩
   go_wp2_with fail
   go_end0
   exact ⟨rfl, by rw [HP.out]; exact h2, HT.out.trans t2⟩
 by_cases h2 : k = 2
 · subst h2
   obtain ⟨m, hm⟩ : ∃ m : List UInt8, (if i then [116, 114, 117, 101] else [102, 97, 108, 115, 101]) = m := ⟨_, rfl⟩
   have hpc : pcs ⟨2, i, n, s, ks, vs⟩ = [m] := by rw [pcs, if_neg (by decide), if_pos rfl, hm]
   have hfb : ∀ wx : World, Calls Tryz.prog 73 #[.bool i] wx fun e w' => e = .returned (.string (txt m)) ∧ w' = wx := fun wx => by
     have := Tryz.strconv_FormatBool i wx
     rw [show (⟨(Lib.formatBool i).toArray⟩ : ByteArray) = txt m by rw [← hm]; cases i <;> decide +kernel] at this
     exact this
   have hml : m.length ≤ 100000 := by rw [← hm]; cases i <;> decide
   have HP := Lib.hid hpc
   have HS := Lib.hid fun (wx : World) (h : St ps wx) => hp.step ps m wx h hml hn (by rw [hpc] at hg; exact hg)
   have HT := Lib.hid tA
   have HSA := Lib.hid hsA
   have HKP := Lib.hid hp.keep
   have HLW := Lib.hid (show B ≤ (w.alloc (.cells #[.int .i64 2, .bool i, .bool n.neg, .string (txt n.dig), .int .i64 n.exp, .string (txt s), .slice pk ks.length ck, .slice a vs.length c] 29)).heap.size by simp; omega)
   clear hpc hs hsA tA he heA hr hbad a2 a3 a4 a5 a6 hlen hkb hnd hw hm hml hg bA hA
   go_enter Tryz.func51, Tryz.ntmps51
   go_upto_region 5 with fail
   go_region_with (first | (go_at_call 73; refine (hfb _).mono ?_; rintro e wx ⟨rfl, rfl⟩) | (refine (HS.out _ (HKP.out _ _ _ HSA.out (Below.refl _ _).drew)).mono ?_; rintro e wz ⟨rfl, h2, t2⟩))
   all_goals
     go_wp2_with fail
     go_end0
     exact ⟨rfl, by rw [HP.out]; exact h2, (HT.out.trans (.of_below (Below.refl _ _).drew HLW.out)).trans t2⟩
 by_cases h3 : k = 3
 · subst h3
   have hpc : pcs ⟨3, i, n, s, ks, vs⟩ = [Num.print n] := by rw [pcs, if_neg (by decide), if_neg (by decide), if_pos rfl]
   have hml : (Num.print n).length ≤ 100000 := by have := num_len (n := n) hr; omega
   have hpr : ∀ wx : World, Num.Pow wx → Calls Tryz.prog 74 #[.agg #[.bool n.neg, .string (txt n.dig), .int .i64 n.exp]] wx fun e w' => e = .returned (.string (txt (Num.print n))) ∧ Below wx.heap.size wx w' := fun wx h => Num.nprint_pow (w := wx) h (n := n) (by omega)
   have hpw := heA.pow.below (w' := (w.alloc (.cells #[.int .i64 3, .bool i, .bool n.neg, .string (txt n.dig), .int .i64 n.exp, .string (txt s), .slice pk ks.length ck, .slice a vs.length c] 29)).drew) (Below.refl _ _).drew
   have HP := Lib.hid hpc
   have HS := Lib.hid fun (wx : World) (h : St ps wx) => hp.step ps (Num.print n) wx h hml hn (by rw [hpc] at hg; exact hg)
   have HT := Lib.hid tA
   have HSA := Lib.hid hsA
   have HKP := Lib.hid hp.keep
   have HPR := Lib.hid hpr
   have HPW := Lib.hid hpw
   have HLW := Lib.hid (show B ≤ (w.alloc (.cells #[.int .i64 3, .bool i, .bool n.neg, .string (txt n.dig), .int .i64 n.exp, .string (txt s), .slice pk ks.length ck, .slice a vs.length c] 29)).heap.size by simp; omega)
   clear hpc hs hsA tA he heA hr hbad a2 a3 a4 a5 a6 hlen hkb hnd hw hml hg bA hA hpr hpw
   go_enter Tryz.func51, Tryz.ntmps51
   go_upto_region 7 with fail
   go_region_with (first | (go_at_call 74; refine (HPR.out _ HPW.out).mono ?_; rintro e wx ⟨rfl, kx⟩) | (refine (HS.out _ (HKP.out _ _ _ HSA.out ((Below.refl _ _).drew.trans kx))).mono ?_; rintro e wz ⟨rfl, h2, t2⟩))
   all_goals
     go_wp2_with fail
     go_end0
     exact ⟨rfl, by rw [HP.out]; exact h2, (HT.out.trans (.of_below ((Below.refl _ _).drew.trans kx) HLW.out)).trans t2⟩
 · obtain rfl : k = 4 := by omega
   have hpc : pcs ⟨4, i, n, s, ks, vs⟩ = [Quo.print s] := by rw [pcs, if_neg (by decide), if_neg (by decide), if_neg (by decide), if_pos rfl]
   have hml : (Quo.print s).length ≤ 100000 := by have := quo_len s; omega
   have hpr := fun (wx : World) (h : Utf.Laid wx) => quoted_any (w := wx) h (l := s) (by omega) hbad
   have hpw : Utf.Laid ((w.alloc (.cells #[.int .i64 4, .bool i, .bool n.neg, .string (txt n.dig), .int .i64 n.exp, .string (txt s), .slice pk ks.length ck, .slice a vs.length c] 29)).drew) := heA.utf.below ((Below.refl _ _).drew) heA.utf.lt
   have HP := Lib.hid hpc
   have HS := Lib.hid fun (wx : World) (h : St ps wx) => hp.step ps (Quo.print s) wx h hml hn (by rw [hpc] at hg; exact hg)
   have HT := Lib.hid tA
   have HSA := Lib.hid hsA
   have HKP := Lib.hid hp.keep
   have HPR := Lib.hid hpr
   have HPW := Lib.hid hpw
   have HLW := Lib.hid (show B ≤ (w.alloc (.cells #[.int .i64 4, .bool i, .bool n.neg, .string (txt n.dig), .int .i64 n.exp, .string (txt s), .slice pk ks.length ck, .slice a vs.length c] 29)).heap.size by simp; omega)
   clear hpc hs hsA tA he heA hr hbad a2 a3 a4 a5 a6 hlen hkb hnd hw hml hg bA hA hpr hpw
   go_enter Tryz.func51, Tryz.ntmps51
   go_upto_region 9 with fail
   go_region_with (first | (go_at_call 75; refine (HPR.out _ HPW.out).mono ?_; rintro e wx ⟨rfl, kx⟩) | (refine (HS.out _ (HKP.out _ _ _ HSA.out ((Below.refl _ _).drew.trans kx))).mono ?_; rintro e wz ⟨rfl, h2, t2⟩))
   all_goals
     go_wp2_with fail
     go_end0
     exact ⟨rfl, by rw [HP.out]; exact h2, (HT.out.trans (.of_below ((Below.refl _ _).drew.trans kx) HLW.out)).trans t2⟩
end Go.Proofs.YtlfbnfphocpgeaaGreatDoor.Jenc
namespace Go.Proofs.YtlfbnfphocpgeaaGreatDoor.Jenc
open Go.RowKit Kit Txt
open Tre (Val Whole Wholes HoldU HoldP HoldsP KsP At8 cellsV Fine count counts)
open Emb (Turn)
theorem pcss_cons (obj first : Bool) (ks : List (List UInt8)) (v : Val) (r : List Val) : pcss obj first ks (v :: r) = (if first then [] else [[44]]) ++ ((if obj then [Quo.print (ks.headD []), [58]] else []) ++ (pcs v ++ pcss obj false ks.tail r)) := by rw [pcss]
theorem Turn.block {B b k : Nat} {w w' : World} {cs : Array Value} (h : Turn B b w w') (hk : k ≠ b) (hb : w.heap[k]? = some (.cells cs 29 (0, 0))) : w'.heap[k]? = some (.cells cs 29 (0, 0)) := h.2 k cs _ _ hk (by decide) hb
set_option maxRecDepth 100000 in
set_option maxHeartbeats 4000000 in
theorem putkids_any {T : TypeId} {K : FuncId} {P B : Nat} {Gd : List (List UInt8) → Prop} {St : List (List UInt8) → World → Prop} (hp : Printer T K P B Gd St) {v : Val} (hv : Whole v) (hf : ∃ d, Fine d v) (h56 : v.kind = 5 ∨ v.kind = 6)
   (ih : ∀ x ∈ v.kids, ∀ (w : World) (u : Value) (ps : List (List UInt8)), HoldU B w u x → St ps w → Env B w → ps.length + 5 * count x ≤ 100000 → Gd (ps ++ pcs x) → Calls Tryz.prog 51 #[.iface T (.pointer (some ⟨P, 0, none⟩)), u] w fun e w' => e = .returned (.tuple #[]) ∧ St (ps ++ pcs x) w' ∧ Turn B P w w')
   {w : World} {u : Value} {ps : List (List UInt8)} (hu : HoldU B w u v) (hs : St ps w) (he : Env B w) (hn : ps.length + 5 * count v ≤ 100000) (hg : Gd (ps ++ pcs v)) {obj : Bool} (hob : obj = decide (v.kind = 6)) :
   Calls Tryz.prog 76 #[.iface T (.pointer (some ⟨P, 0, none⟩)), .string (txt [opener obj]), u, .string (txt [Jdec.close obj])] w fun e w' => e = .returned (.tuple #[]) ∧ St (ps ++ pcs v) w' ∧ Turn B P w w' := by
 have hcnt := fun x (hx : x ∈ v.kids) => (Tre.count_kids (v := v)).2 x hx
 obtain ⟨k, b, n, s, ks, vs⟩ := v
 obtain ⟨d, hf⟩ := hf
 rw [Fine] at hf
 obtain ⟨-, -, -, hkl, -⟩ := hf
 rw [Whole] at hv
 obtain ⟨⟨l1, l2, a2, a3, a4, a5, a6, hr, hbad, hlen, hkb, hnd⟩, hw⟩ := hv
 replace h56 : k = 5 ∨ k = 6 := h56
 have hob2 : obj = decide (k = 6) := hob
 clear hob
 replace hlen : k = 6 → ks.length = vs.length := hlen
 replace hkb : ∀ x ∈ ks, Utf.bad x = none := hkb
 replace ih : ∀ x ∈ vs, ∀ (w : World) (u : Value) (ps : List (List UInt8)), HoldU B w u x → St ps w → Env B w → ps.length + 5 * count x ≤ 100000 → Gd (ps ++ pcs x) → Calls Tryz.prog 51 #[.iface T (.pointer (some ⟨P, 0, none⟩)), u] w fun e w' => e = .returned (.tuple #[]) ∧ St (ps ++ pcs x) w' ∧ Turn B P w w' := ih
 have hpc : pcs ⟨k, b, n, s, ks, vs⟩ = [opener obj] :: (pcss obj true ks vs ++ [[Jdec.close obj]]) := by rw [pcs, if_neg (by omega), if_neg (by omega), if_neg (by omega), if_neg (by omega), hob2]
 have hpl := pcss_len vs obj true ks
 rw [count] at hn
 rw [hpc] at hg ⊢
 obtain ⟨cs, rfl, hc⟩ := hu
 rw [HoldP] at hc
 obtain ⟨uk, a, c, rfl, hk, hcap, hmax, hx⟩ := hc
 obtain ⟨pk, ck, rfl, hkc, hkm, hkx⟩ := hk
 show Calls Tryz.prog 76 #[.iface T (.pointer (some ⟨P, 0, none⟩)), .string (txt [opener obj]), .agg #[.int .i64 k, .bool b, .bool n.neg, .string (txt n.dig), .int .i64 n.exp, .string (txt s), .slice pk ks.length ck, .slice a vs.length c], .string (txt [Jdec.close obj])] w _
 have hna := hp.ahead
 have hme := hp.meth
 have hcl := hp.call
 obtain ⟨lB, lw, lP⟩ := hp.low _ _ hs
 have hA := World.alloc_heap_new w (.cells #[.int .i64 k, .bool b, .bool n.neg, .string (txt n.dig), .int .i64 n.exp, .string (txt s), .slice pk ks.length ck, .slice a vs.length c] 29)
 have bA : Below w.heap.size w (w.alloc (.cells #[.int .i64 k, .bool b, .bool n.neg, .string (txt n.dig), .int .i64 n.exp, .string (txt s), .slice pk ks.length ck, .slice a vs.length c] 29)) := (Below.refl _ w).alloc (Nat.le_refl _) _
 have hsA := hp.keep _ _ _ hs bA
 have tA : Turn B P w _ := .of_below bA lw
 have heA := he.step tA.1
 obtain ⟨c0, c1, c2, c3, c4, c5, c6, c7⟩ := Tre.eight hA
 have g1 : Gd (ps ++ [[opener obj]]) := hp.pre _ (pcss obj true ks vs ++ [[Jdec.close obj]]) (by simpa using hg)
 have HS1 := Lib.hid (hp.step ps [opener obj] _ hsA (by simp) (by omega) g1)
 have HG := Lib.hid hg
 have HIH := Lib.hid ih
 have HTA := Lib.hid tA
 have HE := Lib.hid heA
 have HA := Lib.hid hA
 have HP := Lib.hid hp
 have HK := Lib.hid hkx
 have HX := Lib.hid hx
 have HKB := Lib.hid hkb
 have HKL := Lib.hid hkl
 have HLEN := Lib.hid hlen
 have HCNT := Lib.hid hcnt
 have HOB := Lib.hid hob2
 have hP1 : w.heap.size ≠ P := by omega
 clear hg ih tA heA hs hsA he bA hA hpc g1 hkx hx hkb hkl hlen hcnt a2 a3 a4 a5 a6 hr hbad hnd hw hp hob2
 go_enter Tryz.func76, Tryz.ntmps76
 go_wp2_with fail
 refine HS1.out.mono ?_
 rintro e w1 ⟨rfl, h1, t1⟩
 have hA1 := Turn.block t1 hP1 HA.out
 clear c0 c1 c2 c3 c4 c5 c6 c7
 obtain ⟨c0, c1, c2, c3, c4, c5, c6, c7⟩ := Tre.eight hA1
 have T1 := Lib.hid (HTA.out.trans t1)
 have HE1 := Lib.hid (HE.out.step t1.1)
 have HS := Lib.hid h1
 have HA1 := Lib.hid hA1
 clear h1 t1 hA1 HS1 HE HTA
 go_wp2_with fail
 go_loopw [16] (fun z wr => ∃ (i : Nat) (qs : List (List UInt8)), z = .int .i64 i ∧ i ≤ vs.length ∧ St qs wr ∧ qs.length + 5 * counts (vs.drop i) + 4 ≤ 100000 ∧ qs ++ pcss obj (decide (i = 0)) (ks.drop i) (vs.drop i) = ps ++ ([opener obj] :: pcss obj true ks vs) ∧ wr.heap[w.heap.size]? = some (.cells #[.int .i64 k, .bool b, .bool n.neg, .string (txt n.dig), .int .i64 n.exp, .string (txt s), .slice pk ks.length ck, .slice a vs.length c] 29 (0, 0)) ∧ Turn B P w wr ∧ Env B wr) (fun z _ => vs.length - (intOf z).toNat)
 case atStart => exact ⟨0, _, rfl, Nat.zero_le _, HS.out, by simp; omega, by simp, HA1.out, T1.out, HE1.out⟩
 case round =>
   obtain ⟨i, qs, rfl, hi, hst, hql, heq, hAr, tr, her⟩ := hrel
   clear c0 c1 c2 c3 c4 c5 c6 c7 HS HA1 T1 HE1
   obtain ⟨c0, c1, c2, c3, c4, c5, c6, c7⟩ := Tre.eight hAr
   by_cases hlt : i < vs.length
   · have hlt' : (i : Int) < (vs.length : Int) := by omega
     have hwi : IntKind.i64.wrap ((i : Int) + 1) = (i : Int) + 1 := by simp only [IntKind.wrap, IntKind.signed, IntKind.bits]; simp; omega
     rcases HX.out with h0 | ⟨g, off, rfl, hgB, hgw, hx⟩
     · subst h0
       exact absurd hlt (Nat.not_lt_zero _)
     obtain ⟨cx, hx8, hxx⟩ := Tre.HoldsP.at hx (List.getElem?_eq_getElem hlt)
     have hxr : At8 wr g (off + i * 8) cx := ⟨hx8.1, fun j hj => (tr.1.cell (p := ⟨g, off + i * 8 + j, none⟩) hgB).trans (hx8.2 j hj)⟩
     have hxh := HoldP.keep tr.1.size (fun q hq _ => tr.1.block q hq) vs[i] hxx
     have hcall := HIH.out vs[i] (List.getElem_mem hlt)
     have hdr : vs.drop i = vs[i] :: vs.drop (i + 1) := List.drop_eq_getElem_cons hlt
     rw [hdr, pcss_cons] at heq
     rw [hdr, counts] at hql
     have hgr := Nat.lt_of_lt_of_le hgw tr.1.size
     have htl : (ks.drop i).tail = ks.drop (i + 1) := List.tail_drop
     rw [htl] at heq
     generalize vs[i] = x at *
     have hxp := pcs_len x
     obtain ⟨R, hR⟩ : ∃ R, pcss obj false (ks.drop (i + 1)) (vs.drop (i + 1)) = R := ⟨_, rfl⟩
     rw [hR] at heq
     have hgd : Gd ((qs ++ ((if decide (i = 0) = true then [] else [[44]]) ++ ((if obj = true then [Quo.print ((ks.drop i).headD []), [58]] else []) ++ (pcs x ++ R)))) ++ [[Jdec.close obj]]) := by
       rw [heq]
       have := HG.out
       simpa using this
     have HR := Lib.hid hR
     have HEQ := Lib.hid heq
     have HGD := Lib.hid hgd
     have HQL := Lib.hid hql
     have HXP := Lib.hid hxp
     clear hxx hx8 hdr hx hR heq hgd hql hxp htl
     obtain ⟨k', b', n', s', ks', vs'⟩ := x
     have hh2 := hxh
     rw [HoldP] at hh2
     obtain ⟨uk', a', c', rfl, ⟨pk', ck', rfl, -⟩, -, -, -⟩ := hh2
     obtain ⟨d0, d1, d2, d3, d4, d5, d6, d7⟩ := hxr.cells
     have hlow := HP.out.low _ _ hst
     have hPw : wr.heap.size ≠ P := by omega
     obtain ⟨wB, hwB⟩ : ∃ wB, wr.alloc (.cells #[.int .i64 k', .bool b', .bool n'.neg, .string (txt n'.dig), .int .i64 n'.exp, .string (txt s'), .slice pk' ks'.length ck', .slice a' vs'.length c'] 29) = wB := ⟨_, rfl⟩
     have kB : Below wr.heap.size wr wB := by
       rw [← hwB]
       exact (Below.refl _ wr).alloc (Nat.le_refl _) _
     have hB0 : wB.heap[wr.heap.size]? = some (.cells #[.int .i64 k', .bool b', .bool n'.neg, .string (txt n'.dig), .int .i64 n'.exp, .string (txt s'), .slice pk' ks'.length ck', .slice a' vs'.length c'] 29 (0, 0)) := by
       rw [← hwB]
       exact World.alloc_heap_new wr _
     have HA0 := Lib.hid ((kB.block _ (lt_of_heap hAr)).trans hAr)
     have HB0 := Lib.hid hB0
     have HS0 := Lib.hid (HP.out.keep _ _ _ hst kB)
     have tB : Turn B P wr wB := .of_below kB hlow.2.1
     have HT0 := Lib.hid (tr.trans tB)
     have HE0 := Lib.hid (her.step tB.1)
     have HXH := Lib.hid (HoldP.keep kB.size (fun q hq hlt => kB.block q hlt) _ hxh)
     have HCALL := Lib.hid hcall
     have HW := Lib.hid hwB
     have hwl := lt_of_heap hAr
     have t44 : (⟨#[44]⟩ : ByteArray) = txt [44] := rfl
     have t58 : (⟨#[58]⟩ : ByteArray) = txt [58] := rfl
     clear hwB kB hB0 tB hst hAr her hcall hxh hxr
     by_cases hi0 : i = 0
     · have hd0 : decide (0 < i) = false := decide_eq_false (by omega)
       have hd1 : decide ((0 : Int) < (i : Int)) = false := decide_eq_false (by omega)
       have HI0 := Lib.hid (show decide (i = 0) = true from decide_eq_true hi0)
       clear hi0
       cases obj with
       | false =>
         have hk6 : k ≠ 6 := of_decide_eq_false HOB.out.symm
         have hgd := HGD.out
         rw [HI0.out] at hgd
         have hk6' : (k == 6) = false := by simp; exact hk6
         have HGDC := Lib.hid hgd
         clear hgd
         go_wp2_with fail
         rw [HW.out]
         go_wp2_with fail
         refine (HCALL.out _ _ (qs) ⟨_, rfl, HXH.out⟩ HS0.out HE0.out (by have := HQL.out; simp; omega) (HP.out.pre _ (R ++ [[Jdec.close false]]) (by simpa using HGDC.out))).mono ?_
         rintro e wz ⟨rfl, hz, tz⟩
         have hAz := Turn.block tz hP1 HA0.out
         have HZ := Lib.hid hz
         have HAZ := Lib.hid hAz
         have HTZ := Lib.hid (HT0.out.trans tz)
         have HEZ := Lib.hid (HE0.out.step tz.1)
         clear hz hAz tz
         go_wp2_with fail
         go_roundw
         case rel => exact ⟨i + 1, _, by go_num, by omega, HZ.out, by have h1 := HQL.out; have h2 := HXP.out; simp; omega, by rw [show decide (i + 1 = 0) = false from decide_eq_false (by omega), HR.out, ← HEQ.out, HI0.out]; simp, HAZ.out, HTZ.out, HEZ.out⟩
         case measure => simp [intOf]; omega
       | true =>
         have hk6 : k = 6 := of_decide_eq_true HOB.out.symm
         have hgd := HGD.out
         rw [HI0.out] at hgd
         subst hk6
         have hik : i < ks.length := by rw [HLEN.out rfl]; exact hlt
         have hik' : (i : Int) < (ks.length : Int) := by omega
         obtain ⟨gk, ok, rfl, hgkB, hgkw, hkx⟩ : ∃ g off, pk = some ⟨g, off, none⟩ ∧ g < B ∧ g < w.heap.size ∧ ∀ (i : Nat) (l : List UInt8), ks[i]? = some l → w.cell? ⟨g, off + i, none⟩ = some (.string (txt l)) := by
           rcases HK.out with h0 | h0
           · subst h0; exact absurd hik (Nat.not_lt_zero _)
           · exact h0
         have hkey := hkx i ks[i] (List.getElem?_eq_getElem hik)
         have hkh : (ks.drop i).headD [] = ks[i] := by rw [List.drop_eq_getElem_cons hik]; rfl
         have hkv := HKB.out ks[i] (List.getElem_mem hik)
         have hkl2 := HKL.out ks[i] (List.getElem_mem hik)
         rw [hkh] at hgd
         have HGDC := Lib.hid hgd
         have HKH := Lib.hid hkh
         generalize ks[i] = kk at *
         clear hkx hkh hgd
         have hkc : wB.cell? ⟨gk, ok + i, none⟩ = some (.string (txt kk)) := (HT0.out.1.cell (p := ⟨gk, ok + i, none⟩) hgkB).trans hkey
         have hgkl : gk < wB.heap.size := Nat.lt_of_lt_of_le hgkw HT0.out.1.size
         have HQ := Lib.hid fun (wx : World) (h : Utf.Laid wx) => quoted_any (w := wx) h (l := kk) (by omega) hkv
         have HML := Lib.hid (show (Quo.print kk).length ≤ 100000 by have := quo_len kk; omega)
         clear hkey hkv hkl2
         go_upto_region 8 with fail
         rw [HW.out]
         clear c0 c1 c2 c3 c4 c5 c6 c7
         obtain ⟨c0, c1, c2, c3, c4, c5, c6, c7⟩ := Tre.eight HA0.out
         go_region_with (first | (go_at_call 75; refine (HQ.out _ (HE0.out.utf.below (Below.refl _ _).drew HE0.out.utf.lt)).mono ?_; rintro e wq ⟨rfl, kq⟩) | (refine (HP.out.step (qs) (Quo.print kk) _ (HP.out.keep _ _ _ HS0.out ((Below.refl _ _).drew.trans kq)) HML.out (by have := HQL.out; simp; omega) (HP.out.pre _ ([58] :: (pcs ⟨k', b', n', s', ks', vs'⟩ ++ (R ++ [[Jdec.close true]]))) (by simpa using HGDC.out))).mono ?_; rintro e w11 ⟨rfl, h1, t1⟩))
         all_goals
           have tq : Turn B P wB w11 := (Turn.of_below ((Below.refl _ _).drew.trans kq) (HP.out.low _ _ HS0.out).2.1).trans t1
           clear t1 kq
           have HA1 := Lib.hid (Turn.block tq hP1 HA0.out)
           have HB1 := Lib.hid (Turn.block tq hPw HB0.out)
           have HS1 := Lib.hid h1
           have HT1 := Lib.hid (HT0.out.trans tq)
           have HE1 := Lib.hid (HE0.out.step tq.1)
           have HXH1 := Lib.hid (HoldP.keep tq.1.size (fun q hq hlt => tq.1.block q hq) _ HXH.out)
           clear h1 tq c0 c1 c2 c3 c4 c5 c6 c7
           obtain ⟨c0, c1, c2, c3, c4, c5, c6, c7⟩ := Tre.eight HA1.out
           go_wp2_with fail
           refine (HP.out.step ((qs) ++ [Quo.print kk]) [58] _ HS1.out (by simp) (by have := HQL.out; simp; omega) (HP.out.pre _ (pcs ⟨k', b', n', s', ks', vs'⟩ ++ (R ++ [[Jdec.close true]])) (by simpa using HGDC.out))).mono ?_
           rintro e w12 ⟨rfl, h2, t2⟩
           have HA2 := Lib.hid (Turn.block t2 hP1 HA1.out)
           have HB2 := Lib.hid (Turn.block t2 hPw HB1.out)
           have HS2 := Lib.hid h2
           have HT2 := Lib.hid (HT1.out.trans t2)
           have HE2 := Lib.hid (HE1.out.step t2.1)
           have HXH2 := Lib.hid (HoldP.keep t2.1.size (fun q hq hlt => t2.1.block q hq) _ HXH1.out)
           clear h2 t2 c0 c1 c2 c3 c4 c5 c6 c7
           obtain ⟨e0, e1, e2, e3, e4, e5, e6, e7⟩ := Tre.eight HB2.out
           go_wp2_with fail
           refine (HCALL.out _ _ (((qs) ++ [Quo.print kk]) ++ [[58]]) ⟨_, rfl, HXH2.out⟩ HS2.out HE2.out (by have := HQL.out; simp; omega) (HP.out.pre _ (R ++ [[Jdec.close true]]) (by simpa using HGDC.out))).mono ?_
           rintro e wz ⟨rfl, hz, tz⟩
           have hAz := Turn.block tz hP1 HA2.out
           have HZ := Lib.hid hz
           have HAZ := Lib.hid hAz
           have HTZ := Lib.hid (HT2.out.trans tz)
           have HEZ := Lib.hid (HE2.out.step tz.1)
           clear hz hAz tz e0 e1 e2 e3 e4 e5 e6 e7
           go_wp2_with fail
           go_roundw
           case rel => exact ⟨i + 1, _, by go_num, by omega, HZ.out, by have h1 := HQL.out; have h2 := HXP.out; simp; omega, by rw [show decide (i + 1 = 0) = false from decide_eq_false (by omega), HR.out, ← HEQ.out, HI0.out, HKH.out]; simp, HAZ.out, HTZ.out, HEZ.out⟩
           case measure => simp [intOf]; omega
     · have hd0 : decide (0 < i) = true := decide_eq_true (by omega)
       have hd1 : (0 : Int) < (i : Int) := by omega
       have HI0 := Lib.hid (show decide (i = 0) = false from decide_eq_false hi0)
       clear hi0
       cases obj with
       | false =>
         have hk6 : k ≠ 6 := of_decide_eq_false HOB.out.symm
         have hgd := HGD.out
         rw [HI0.out] at hgd
         have hk6' : (k == 6) = false := by simp; exact hk6
         have HGDC := Lib.hid hgd
         clear hgd
         go_wp2_with fail
         rw [HW.out]
         go_wp2_with fail
         refine (HP.out.step (qs) [44] _ HS0.out (by simp) (by have := HQL.out; simp; omega) (HP.out.pre _ (pcs ⟨k', b', n', s', ks', vs'⟩ ++ (R ++ [[Jdec.close false]])) (by simpa using HGDC.out))).mono ?_
         rintro e w11 ⟨rfl, h1, t1⟩
         have HA1 := Lib.hid (Turn.block t1 hP1 HA0.out)
         have HB1 := Lib.hid (Turn.block t1 hPw HB0.out)
         have HS1 := Lib.hid h1
         have HT1 := Lib.hid (HT0.out.trans t1)
         have HE1 := Lib.hid (HE0.out.step t1.1)
         have HXH1 := Lib.hid (HoldP.keep t1.1.size (fun q hq hlt => t1.1.block q hq) _ HXH.out)
         clear h1 t1 c0 c1 c2 c3 c4 c5 c6 c7
         obtain ⟨c0, c1, c2, c3, c4, c5, c6, c7⟩ := Tre.eight HA1.out
         obtain ⟨e0, e1, e2, e3, e4, e5, e6, e7⟩ := Tre.eight HB1.out
         go_wp2_with fail
         refine (HCALL.out _ _ (qs ++ [[44]]) ⟨_, rfl, HXH1.out⟩ HS1.out HE1.out (by have := HQL.out; simp; omega) (HP.out.pre _ (R ++ [[Jdec.close false]]) (by simpa using HGDC.out))).mono ?_
         rintro e wz ⟨rfl, hz, tz⟩
         have hAz := Turn.block tz hP1 HA1.out
         have HZ := Lib.hid hz
         have HAZ := Lib.hid hAz
         have HTZ := Lib.hid (HT1.out.trans tz)
         have HEZ := Lib.hid (HE1.out.step tz.1)
         clear hz hAz tz e0 e1 e2 e3 e4 e5 e6 e7
         go_wp2_with fail
         go_roundw
         case rel => exact ⟨i + 1, _, by go_num, by omega, HZ.out, by have h1 := HQL.out; have h2 := HXP.out; simp; omega, by rw [show decide (i + 1 = 0) = false from decide_eq_false (by omega), HR.out, ← HEQ.out, HI0.out]; simp, HAZ.out, HTZ.out, HEZ.out⟩
         case measure => simp [intOf]; omega
       | true =>
         have hk6 : k = 6 := of_decide_eq_true HOB.out.symm
         have hgd := HGD.out
         rw [HI0.out] at hgd
         subst hk6
         have hik : i < ks.length := by rw [HLEN.out rfl]; exact hlt
         have hik' : (i : Int) < (ks.length : Int) := by omega
         obtain ⟨gk, ok, rfl, hgkB, hgkw, hkx⟩ : ∃ g off, pk = some ⟨g, off, none⟩ ∧ g < B ∧ g < w.heap.size ∧ ∀ (i : Nat) (l : List UInt8), ks[i]? = some l → w.cell? ⟨g, off + i, none⟩ = some (.string (txt l)) := by
           rcases HK.out with h0 | h0
           · subst h0; exact absurd hik (Nat.not_lt_zero _)
           · exact h0
         have hkey := hkx i ks[i] (List.getElem?_eq_getElem hik)
         have hkh : (ks.drop i).headD [] = ks[i] := by rw [List.drop_eq_getElem_cons hik]; rfl
         have hkv := HKB.out ks[i] (List.getElem_mem hik)
         have hkl2 := HKL.out ks[i] (List.getElem_mem hik)
         rw [hkh] at hgd
         have HGDC := Lib.hid hgd
         have HKH := Lib.hid hkh
         generalize ks[i] = kk at *
         clear hkx hkh hgd
         go_wp2_with fail
         rw [HW.out]
         go_wp2_with fail
         refine (HP.out.step (qs) [44] _ HS0.out (by simp) (by have := HQL.out; simp; omega) (HP.out.pre _ (Quo.print kk :: [58] :: (pcs ⟨k', b', n', s', ks', vs'⟩ ++ (R ++ [[Jdec.close true]]))) (by simpa using HGDC.out))).mono ?_
         rintro e w11 ⟨rfl, h1, t1⟩
         have HA1 := Lib.hid (Turn.block t1 hP1 HA0.out)
         have HB1 := Lib.hid (Turn.block t1 hPw HB0.out)
         have HS1 := Lib.hid h1
         have HT1 := Lib.hid (HT0.out.trans t1)
         have HE1 := Lib.hid (HE0.out.step t1.1)
         have HXH1 := Lib.hid (HoldP.keep t1.1.size (fun q hq hlt => t1.1.block q hq) _ HXH.out)
         clear h1 t1 c0 c1 c2 c3 c4 c5 c6 c7
         obtain ⟨c0, c1, c2, c3, c4, c5, c6, c7⟩ := Tre.eight HA1.out
         have hkc : w11.cell? ⟨gk, ok + i, none⟩ = some (.string (txt kk)) := (HT1.out.1.cell (p := ⟨gk, ok + i, none⟩) hgkB).trans hkey
         have hgkl : gk < w11.heap.size := Nat.lt_of_lt_of_le hgkw HT1.out.1.size
         have HQ := Lib.hid fun (wx : World) (h : Utf.Laid wx) => quoted_any (w := wx) h (l := kk) (by omega) hkv
         have HML := Lib.hid (show (Quo.print kk).length ≤ 100000 by have := quo_len kk; omega)
         clear hkey hkv hkl2
         go_upto_region 8 with fail
         go_region_with (first | (go_at_call 75; refine (HQ.out _ (HE1.out.utf.below (Below.refl _ _).drew HE1.out.utf.lt)).mono ?_; rintro e wq ⟨rfl, kq⟩) | (refine (HP.out.step (qs ++ [[44]]) (Quo.print kk) _ (HP.out.keep _ _ _ HS1.out ((Below.refl _ _).drew.trans kq)) HML.out (by have := HQL.out; simp; omega) (HP.out.pre _ ([58] :: (pcs ⟨k', b', n', s', ks', vs'⟩ ++ (R ++ [[Jdec.close true]]))) (by simpa using HGDC.out))).mono ?_; rintro e w12 ⟨rfl, h2, t2⟩))
         all_goals
           have tq : Turn B P w11 w12 := (Turn.of_below ((Below.refl _ _).drew.trans kq) (HP.out.low _ _ HS1.out).2.1).trans t2
           clear t2 kq
           have HA2 := Lib.hid (Turn.block tq hP1 HA1.out)
           have HB2 := Lib.hid (Turn.block tq hPw HB1.out)
           have HS2 := Lib.hid h2
           have HT2 := Lib.hid (HT1.out.trans tq)
           have HE2 := Lib.hid (HE1.out.step tq.1)
           have HXH2 := Lib.hid (HoldP.keep tq.1.size (fun q hq hlt => tq.1.block q hq) _ HXH1.out)
           clear h2 tq c0 c1 c2 c3 c4 c5 c6 c7
           obtain ⟨c0, c1, c2, c3, c4, c5, c6, c7⟩ := Tre.eight HA2.out
           go_wp2_with fail
           refine (HP.out.step ((qs ++ [[44]]) ++ [Quo.print kk]) [58] _ HS2.out (by simp) (by have := HQL.out; simp; omega) (HP.out.pre _ (pcs ⟨k', b', n', s', ks', vs'⟩ ++ (R ++ [[Jdec.close true]])) (by simpa using HGDC.out))).mono ?_
           rintro e w13 ⟨rfl, h3, t3⟩
           have HA3 := Lib.hid (Turn.block t3 hP1 HA2.out)
           have HB3 := Lib.hid (Turn.block t3 hPw HB2.out)
           have HS3 := Lib.hid h3
           have HT3 := Lib.hid (HT2.out.trans t3)
           have HE3 := Lib.hid (HE2.out.step t3.1)
           have HXH3 := Lib.hid (HoldP.keep t3.1.size (fun q hq hlt => t3.1.block q hq) _ HXH2.out)
           clear h3 t3 c0 c1 c2 c3 c4 c5 c6 c7
           obtain ⟨e0, e1, e2, e3, e4, e5, e6, e7⟩ := Tre.eight HB3.out
           go_wp2_with fail
           refine (HCALL.out _ _ (((qs ++ [[44]]) ++ [Quo.print kk]) ++ [[58]]) ⟨_, rfl, HXH3.out⟩ HS3.out HE3.out (by have := HQL.out; simp; omega) (HP.out.pre _ (R ++ [[Jdec.close true]]) (by simpa using HGDC.out))).mono ?_
           rintro e wz ⟨rfl, hz, tz⟩
           have hAz := Turn.block tz hP1 HA3.out
           have HZ := Lib.hid hz
           have HAZ := Lib.hid hAz
           have HTZ := Lib.hid (HT3.out.trans tz)
           have HEZ := Lib.hid (HE3.out.step tz.1)
           clear hz hAz tz e0 e1 e2 e3 e4 e5 e6 e7
           go_wp2_with fail
           go_roundw
           case rel => exact ⟨i + 1, _, by go_num, by omega, HZ.out, by have h1 := HQL.out; have h2 := HXP.out; simp; omega, by rw [show decide (i + 1 = 0) = false from decide_eq_false (by omega), HR.out, ← HEQ.out, HI0.out, HKH.out]; simp, HAZ.out, HTZ.out, HEZ.out⟩
           case measure => simp [intOf]; omega
   · obtain rfl : i = vs.length := by omega
     have hd : decide (vs.length < vs.length) = false := by simp
     have hfin : qs ++ [[Jdec.close obj]] = ps ++ ([opener obj] :: (pcss obj true ks vs ++ [[Jdec.close obj]])) := by
       rw [List.drop_length, pcss, List.append_nil] at heq
       rw [heq]
       simp
     have g2 : Gd (qs ++ [[Jdec.close obj]]) := by rw [hfin]; exact HG.out
     have HFIN := Lib.hid hfin
     have HSZ := Lib.hid (HP.out.step qs [Jdec.close obj] _ hst (by simp) (by omega) g2)
     have HTR := Lib.hid tr
     clear hfin g2 hst heq tr her hql
     go_wp2_with fail
     refine HSZ.out.mono ?_
     rintro e wz ⟨rfl, hz, tz⟩
     go_wp2_with fail
     go_end0
     exact ⟨rfl, by rw [← HFIN.out]; exact hz, HTR.out.trans tz⟩
end Go.Proofs.YtlfbnfphocpgeaaGreatDoor.Jenc
