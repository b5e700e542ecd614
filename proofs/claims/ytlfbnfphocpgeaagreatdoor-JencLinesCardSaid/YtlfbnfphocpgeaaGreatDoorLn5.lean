/- JencLines answers true for every input, and changes nothing that was there before the call: no condition, but that the package's own tables hold what the program's text lays in them. -/
import Derived.BigRegion
import Derived.MakeChecks
import Derived.LaidMore
import Derived.SizedLaws
import Derived.Lib.SmallJoins
import Derived.Deep.Strs
import Derived.Test.YtlfbnfphocpgeaaGreatDoorTie
import Derived.Test.YtlfbnfphocpgeaaGreatDoorCards
import Derived.SevenTiedAt
import Derived.Stop.Joined
import Derived.Lay
import Derived.Test.YtlfbnfphocpgeaaGreatDoorLn4
namespace Go.Proofs.YtlfbnfphocpgeaaGreatDoor.Tre
open Go.RowKit Kit Txt Go.Sort
open Num (Dec zero)
/-- What sortObjects leaves. -/
def Sorted (lo hi : Nat) (cs : List Value) (v : Val) (w : World) (e : Ending) (w' : World) : Prop := e = .returned (.tuple #[]) ∧ HoldP (fun q => lo ≤ q ∧ q < hi) w' cs (sort v) ∧ Turn lo hi w w'
set_option maxRecDepth 100000 in
set_option maxHeartbeats 16000000 in
theorem sortobj_any : ∀ (v : Val), count v < 1000000 → Whole v → ∀ (w : World) (lo hi : Nat) (cs : List Value), Sep w lo hi cs v → lo ≤ hi → hi ≤ w.heap.size → Calls Tryz.prog 54 #[.agg cs.toArray] w (Sorted lo hi cs v w) := by
  refine ind1 fun v ih hct hwh w lo hi cs hsep hlo hhi => ?_
  have hw2 := whole_iff.1 hwh
  obtain ⟨k, b, n, s, ks, vs⟩ := v
  have hck : count ⟨k, b, n, s, ks, vs⟩ = 1 + ks.length + counts vs := by rw [count]
  have hlen := counts_lenF vs
  have hlk : ks.length < 1000000 := by omega
  have hlv : vs.length < 1000000 := by omega
  have IH : ∀ x ∈ vs, ∀ (w : World) (lo hi : Nat) (cs : List Value), Sep w lo hi cs x → lo ≤ hi → hi ≤ w.heap.size → Calls Tryz.prog 54 #[.agg cs.toArray] w (Sorted lo hi cs x w) := fun x hx => ih x hx (by have := counts_memF hx; omega) (hw2.2 x hx)
  have hown := hw2.1
  unfold Own Val.kind Val.keys Val.kids at hown
  dsimp only at hown
  have hN : ks = [] ∨ (k = 6 ∧ ks.length = vs.length) := by
    by_cases h6 : k = 6
    · exact .inr ⟨h6, hown.2.2.2.2.2.2.2.2.2.1 h6⟩
    · exact .inl (hown.2.2.2.2.2.2.1 h6)
  have hnd : ks.Nodup := hown.2.2.2.2.2.2.2.2.2.2.2
  have hN6 : (k = 6 → ks.length = vs.length) ∧ (k ≠ 6 → ks = []) := ⟨hown.2.2.2.2.2.2.2.2.2.1, hown.2.2.2.2.2.2.1⟩
  have HN6 := Lib.hid hN6
  clear ih hwh hw2 hown hck hN6
  rw [Sep] at hsep
  obtain ⟨uk, a, c, p, rfl, hp1, hp2, ⟨ak, ck, rfl, hck, hmk, hK⟩, hc, hm, hV⟩ := hsep
  have KB : ∃ (g : Nat) (bnd : Nat → Nat) (fr : Nat → F8), (∀ i, i < vs.length → bnd i ≤ bnd (i + 1)) ∧ bnd vs.length ≤ hi ∧ p ≤ bnd 0 ∧ (vs ≠ [] → a = some ⟨g, 0, none⟩ ∧ p ≤ g ∧ g < bnd 0 ∧ Blk w g) ∧
      ∀ (i : Nat) (v : Val), vs[i]? = some v → At8 w g (i * 8) (fr i).cells ∧ Sep w (bnd i) (bnd (i + 1)) (fr i).cells v := by
    rcases hV with rfl | ⟨g, ha, hg1, hg2, hb, hs⟩
    · exact ⟨0, fun _ => p, fun _ => ⟨0, false, zero, [], none, 0, 0, none, 0, 0⟩, fun _ _ => Nat.le_refl _, hp2, Nat.le_refl _, fun h => absurd rfl h, fun i v hv => by simp at hv⟩
    · obtain ⟨bnd, fr, e1, e2, e3, e4⟩ := Seps.bounds hs
      exact ⟨g, bnd, fr, e2, e3, by omega, fun _ => ⟨ha, hg1, by omega, hb⟩, fun i v hv => by simpa using e4 i v hv⟩
  obtain ⟨g, bnd, fr, hbm, hbh, hpb, hg0, hkid⟩ := KB
  have hbl := fun (i j : Nat) (h1 : i ≤ j) (h2 : j ≤ vs.length) => bnd_le hbm h1 h2
  have KK : ∃ gk : Nat, ks ≠ [] → ak = some ⟨gk, 0, none⟩ ∧ lo ≤ gk ∧ gk < p ∧ Blk w gk ∧ ∀ (i : Nat) (l : List UInt8), ks[i]? = some l → w.cell? ⟨gk, i, none⟩ = some (.string (txt l)) := by
    rcases hK with h | ⟨gk, ha, h1, h2, h3, h4⟩
    · exact ⟨0, fun h' => absurd h h'⟩
    · exact ⟨gk, fun _ => ⟨ha, h1, h2, h3, h4⟩⟩
  obtain ⟨gk, hk0⟩ := KK
  clear hK hV
  show Calls Tryz.prog 54 #[.agg #[.int .i64 k, .bool b, .bool n.neg, .string (txt n.dig), .int .i64 n.exp, .string (txt s), .slice ak ks.length ck, .slice a vs.length c]] w _
  have hA := World.alloc_heap_new w (.cells #[.int .i64 k, .bool b, .bool n.neg, .string (txt n.dig), .int .i64 n.exp, .string (txt s), .slice ak ks.length ck, .slice a vs.length c] 29)
  have tA : Turn (bnd 0) hi w (w.alloc (.cells #[.int .i64 k, .bool b, .bool n.neg, .string (txt n.dig), .int .i64 n.exp, .string (txt s), .slice ak ks.length ck, .slice a vs.length c] 29)) := Turn.of_below ((Below.refl _ w).alloc (Nat.le_refl _) _) (by have := hbl 0 vs.length (Nat.zero_le _) (Nat.le_refl _); omega)
  have hkidA : ∀ (i : Nat) (v : Val), vs[i]? = some v → Sep (w.alloc (.cells #[.int .i64 k, .bool b, .bool n.neg, .string (txt n.dig), .int .i64 n.exp, .string (txt s), .slice ak ks.length ck, .slice a vs.length c] 29)) (bnd i) (bnd (i + 1)) (fr i).cells v := fun i v hv => by
    have hi2 := (List.getElem?_eq_some_iff.1 hv).1
    have := hbl (i + 1) vs.length (by omega) (Nat.le_refl _)
    exact Sep.keep v (fun q _ h2 => ((Below.refl w.heap.size w).alloc (Nat.le_refl _) _).block q (by omega)) (hkid i v hv).2
  have HKID := Lib.hid hkid
  have HIH := Lib.hid IH
  have HN := Lib.hid hN
  have HND := Lib.hid hnd
  have HG0 := Lib.hid hg0
  have HK0 := Lib.hid hk0
  have HBL := Lib.hid hbl
  have HBH := Lib.hid (And.intro hbm (And.intro hbh hpb))
  have HP := Lib.hid (And.intro hp1 (And.intro hp2 (And.intro hlo hhi)))
  have HKA := Lib.hid hkidA
  have HTA := Lib.hid tA
  clear hkid IH hN hnd hg0 hk0 hbl hbm hbh hpb hp1 hp2 hlo hhi hkidA tA
  obtain ⟨c0, c1, c2, c3, c4, c5, c6, c7⟩ := eight hA
  go_enter Tryz.func54, Tryz.ntmps54
  go_wp2_with fail
  clear c0 c1 c2 c3 c4 c5 c6 c7
  go_loopw [12] (fun y wr => ∃ j : Nat, j ≤ vs.length ∧ y = .int .i64 j ∧ (∀ (i : Nat) (v : Val), vs[i]? = some v → i < j → HoldP (fun q => bnd i ≤ q ∧ q < bnd (i + 1)) wr (fr i).cells (sort v)) ∧ (∀ (i : Nat) (v : Val), vs[i]? = some v → j ≤ i → Sep wr (bnd i) (bnd (i + 1)) (fr i).cells v) ∧ wr.heap[w.heap.size]? = some (.cells #[.int .i64 k, .bool b, .bool n.neg, .string (txt n.dig), .int .i64 n.exp, .string (txt s), .slice ak ks.length ck, .slice a vs.length c] 29 (0, 0)) ∧ Turn (bnd 0) hi w wr) (fun y _ => vs.length - (intOf y).toNat)
  case atStart => exact ⟨0, Nat.zero_le _, rfl, fun i v _ h => absurd h (Nat.not_lt_zero _), fun i v hv _ => HKA.out i v hv, hA, HTA.out⟩
  case round =>
    obtain ⟨j, hj, rfl, hdone, htodo, hA1, hT⟩ := hrel
    clear hA HKA HTA
    have hlA := lt_of_heap hA1
    by_cases hlt : j < vs.length
    · have hlt' : (j : Int) < (vs.length : Int) := by omega
      have hne : vs ≠ [] := fun e => by rw [e] at hlt; exact absurd hlt (Nat.not_lt_zero _)
      obtain ⟨rfl, hg1, hg2, hgb⟩ := HG0.out hne
      have hget := List.getElem?_eq_getElem hlt
      obtain ⟨h8, -⟩ := HKID.out j _ hget
      have hS := htodo j _ hget (Nat.le_refl _)
      have hcall := HIH.out vs[j] (List.getElem_mem hlt)
      have hgl : g < w.heap.size := hgb.lt
      have h8' : At8 wr g (j * 8) (fr j).cells := ⟨h8.1, fun t ht => by
        rw [← h8.2 t ht]
        unfold World.cell?
        rw [hT.1.block g hg2]⟩
      have b1 := HBL.out j (j + 1) (by omega) (by omega)
      have b2 := HBL.out (j + 1) vs.length (by omega) (Nat.le_refl _)
      have b3 := HBL.out 0 j (by omega) (by omega)
      have b4 := HBH.out.2.1
      have b5 := HP.out.2.2.2
      have b6 := hT.1.size
      have HDONE := Lib.hid hdone
      have HTODO := Lib.hid htodo
      have HT := Lib.hid hT
      have HGET := Lib.hid hget
      clear hdone htodo h8 hget
      generalize vs[j] = x at *
      obtain ⟨fj, hfj⟩ : ∃ fj, fr j = fj := ⟨_, rfl⟩
      rw [hfj] at hS h8'
      have HFJ := Lib.hid hfj
      clear hfj
      obtain ⟨x0, x1, x2, x3, x4, x5, x6, x7⟩ := F8.at h8'
      have hA2 := World.alloc_heap_new wr (.cells #[.int .i64 fj.k, .bool fj.b, .bool fj.n.neg, .string (txt fj.n.dig), .int .i64 fj.n.exp, .string (txt fj.s), .slice fj.pk fj.lk fj.ck, .slice fj.a fj.lv fj.c] 29)
      have hA3 := new_of hA1 (.cells #[.int .i64 fj.k, .bool fj.b, .bool fj.n.neg, .string (txt fj.n.dig), .int .i64 fj.n.exp, .string (txt fj.s), .slice fj.pk fj.lk fj.ck, .slice fj.a fj.lv fj.c] 29)
      obtain ⟨wB, hwB⟩ : ∃ wB, wr.alloc (.cells #[.int .i64 fj.k, .bool fj.b, .bool fj.n.neg, .string (txt fj.n.dig), .int .i64 fj.n.exp, .string (txt fj.s), .slice fj.pk fj.lk fj.ck, .slice fj.a fj.lv fj.c] 29) = wB := ⟨_, rfl⟩
      have bC : Below wr.heap.size wr wB := by
        rw [← hwB]
        exact (Below.refl _ wr).alloc (Nat.le_refl _) _
      have zC : wB.heap.size = wr.heap.size + 1 := by rw [← hwB]; simp
      rw [hwB] at hA2 hA3
      have HW := Lib.hid hwB
      clear hwB
      obtain ⟨e0, e1, e2, e3, e4, e5, e6, e7⟩ := eight hA2
      obtain ⟨c0, c1, c2, c3, c4, c5, c6, c7⟩ := eight hA1
      have hcall' : Calls Tryz.prog 54 #[.agg #[.int .i64 fj.k, .bool fj.b, .bool fj.n.neg, .string (txt fj.n.dig), .int .i64 fj.n.exp, .string (txt fj.s), .slice fj.pk fj.lk fj.ck, .slice fj.a fj.lv fj.c]] wB (Sorted (bnd j) (bnd (j + 1)) fj.cells x wB) := hcall wB (bnd j) (bnd (j + 1)) fj.cells (Sep.keep x (fun q _ h2 => bC.block q (by omega)) hS) b1 (by omega)
      have HC := Lib.hid hcall'
      have wk : IntKind.i64.wrap ((j : Int) + 1) = (j : Int) + 1 := by simp only [IntKind.wrap, IntKind.signed, IntKind.bits]; simp; omega
      clear hcall' hcall hS h8' hT hgb
      go_wp2_with fail
      rw [HW.out]
      go_wp2_with fail
      refine HC.out.mono ?_
      rintro e w1 ⟨rfl, hH, hT1⟩
      have hA4 := (hT1.2 w.heap.size (by omega) (by rw [zC]; omega)).trans hA3
      have hTn : Turn (bnd 0) hi w w1 := HT.out.trans ((Turn.of_below bC (by omega)).trans (hT1.wide b3 (by omega)))
      have hD : ∀ (i : Nat) (v : Val), vs[i]? = some v → i < j + 1 → HoldP (fun q => bnd i ≤ q ∧ q < bnd (i + 1)) w1 (fr i).cells (sort v) := fun i v hv hij => by
        by_cases e : i = j
        · subst e
          rw [HGET.out] at hv
          injection hv with hv
          subst hv
          rw [HFJ.out]
          exact hH
        · have := HBL.out (i + 1) j (by omega) (by omega)
          exact HoldP.keep (Nat.le_trans bC.size hT1.1.size) (fun q hq hlt => (hT1.1.block q (by omega)).trans (bC.block q hlt)) (sort v) (HDONE.out i v hv (by omega))
      have hE : ∀ (i : Nat) (v : Val), vs[i]? = some v → j + 1 ≤ i → Sep w1 (bnd i) (bnd (i + 1)) (fr i).cells v := fun i v hv hij => by
        have hi2 := (List.getElem?_eq_some_iff.1 hv).1
        have q1 := HBL.out (j + 1) i (by omega) (by omega)
        have q2 := HBL.out (i + 1) vs.length (by omega) (Nat.le_refl _)
        exact Sep.keep v (fun q h1 h2 => (hT1.2 q (by omega) (by omega)).trans (bC.block q (by omega))) (HTODO.out i v hv (by omega))
      have R1 := Lib.hid hD
      have R2 := Lib.hid hE
      have R3 := Lib.hid hTn
      clear hD hE hTn hH hT1
      go_wp2_with fail
      go_roundw
      case rel => exact ⟨j + 1, by omega, by go_num, R1.out, R2.out, hA4, R3.out⟩
      case measure => simp [intOf]; omega
    · obtain rfl : j = vs.length := by omega
      obtain ⟨W1, rfl⟩ : ∃ x, x = wr := ⟨_, rfl⟩
      have hH1 : ∀ (i : Nat) (v : Val), vs[i]? = some v → HoldP (fun q => bnd i ≤ q ∧ q < bnd (i + 1)) W1 (fr i).cells (sort v) := fun i v hv => hdone i v hv (List.getElem?_eq_some_iff.1 hv).1
      have HH1 := Lib.hid hH1
      have HT := Lib.hid hT
      have b6 := hT.1.size
      clear hdone htodo hH1 hT hlt HIH
      obtain ⟨c0, c1, c2, c3, c4, c5, c6, c7⟩ := eight hA1
      obtain ⟨arr0, hz0, hmk2⟩ := make_fld hlk W1
      have hF := World.alloc_heap_new W1 (.cells arr0 116)
      have hAF := new_of hA1 (.cells arr0 116)
      have bF : Below W1.heap.size W1 (W1.alloc (.cells arr0 116)) := (Below.refl _ W1).alloc (Nat.le_refl _) _
      have HMK := Lib.hid (And.intro hmk2 hz0)
      go_wp2_with fail
      clear c0 c1 c2 c3 c4 c5 c6 c7 hmk2
      go_loopw [26] (fun y w2 => ∃ m : Nat, m ≤ ks.length ∧ y = .int .i64 m ∧ (∃ arr : Array Value, w2.heap[W1.heap.size]? = some (.cells arr 116 (0, 0)) ∧ arr.size = ks.length * 9) ∧ (∀ i, i < m → ∀ t, t < 9 → w2.cell? ⟨W1.heap.size, i * 9 + t, none⟩ = (encR (fld ks vs fr i))[t]?) ∧ Below W1.heap.size W1 w2) (fun y _ => ks.length - (intOf y).toNat)
      case atStart => exact ⟨0, Nat.zero_le _, rfl, ⟨_, hF, hz0⟩, fun i h => absurd h (Nat.not_lt_zero _), bF⟩
      case round =>
        obtain ⟨m, hm9, rfl, ⟨arr, hF2, hzF⟩, hrow, b2⟩ := hrel
        clear hF hAF bF hz0
        have hA2 := (b2.block _ hlA).trans hA1
        have hlF := lt_of_heap hF2
        by_cases hlt : m < ks.length
        · have hlt' : (m : Int) < (ks.length : Int) := by omega
          have hnek : ks ≠ [] := fun e => by rw [e] at hlt; exact absurd hlt (Nat.not_lt_zero _)
          have h6 := HN.out.resolve_left hnek
          have hltv : m < vs.length := by omega
          have hltv' : (m : Int) < (vs.length : Int) := by omega
          have hnev : vs ≠ [] := fun e => by rw [e] at hltv; exact absurd hltv (Nat.not_lt_zero _)
          obtain ⟨rfl, hg1, hg2, hgb⟩ := HG0.out hnev
          obtain ⟨rfl, hk1, hk2, hkb, hkc⟩ := HK0.out hnek
          have q1 := HBL.out 0 vs.length (Nat.zero_le _) (Nat.le_refl _)
          have q2 := HBH.out.2
          have q3 := HP.out
          have t1 := HT.out.1
          have hkey : wr.cell? ⟨gk, m, none⟩ = some (.string (txt ks[m])) := by
            rw [← hkc m _ (List.getElem?_eq_getElem hlt)]
            unfold World.cell?
            rw [b2.block gk (by have := hkb.lt; omega), t1.block gk (by omega)]
          have hgl : g < w.heap.size := hgb.lt
          have h8' : At8 wr g (m * 8) (fr m).cells := ⟨rfl, fun t ht => by
            rw [← (HKID.out m _ (List.getElem?_eq_getElem hltv)).1.2 t ht]
            unfold World.cell?
            rw [b2.block g (by omega), t1.block g (by omega)]⟩
          have hgl2 : g < wr.heap.size := by have := b2.size; omega
          have hkl2 : gk < wr.heap.size := by have := b2.size; have := hkb.lt; omega
          have hfld : fld ks vs fr m = ⟨ks[m], fr m, sort vs[m]⟩ := by
            unfold fld
            rw [List.getD_eq_getElem?_getD, List.getElem?_eq_getElem hlt, List.getD_eq_getElem?_getD, List.getElem?_eq_getElem hltv]
            rfl
          have HFLD := Lib.hid hfld
          have HROW := Lib.hid hrow
          have HB2 := Lib.hid b2
          clear hfld hrow hkc hkb hgb t1
          generalize sort vs[m] = sv at *
          generalize ks[m] = key at *
          obtain ⟨fj, hfj⟩ : ∃ fj, fr m = fj := ⟨_, rfl⟩
          rw [hfj] at h8' HFLD
          clear hfj
          obtain ⟨x0, x1, x2, x3, x4, x5, x6, x7⟩ := F8.at h8'
          obtain ⟨c0, c1, c2, c3, c4, c5, c6, c7⟩ := eight hA2
          obtain ⟨z0, z1, z2, z3, z4, z5, z6, z7, z8, f0, f1, f2, f3, f4, f5, f6, f7, f8⟩ := block9 hF2 (o := m * 9) (by omega)
          have g0 := free_of hF2 (m * 9)
          have g1 := free_of hF2 (m * 9 + 1)
          have g2 := free_of hF2 (m * 9 + 2)
          have g3 := free_of hF2 (m * 9 + 3)
          have g4 := free_of hF2 (m * 9 + 4)
          have g5 := free_of hF2 (m * 9 + 5)
          have g6 := free_of hF2 (m * 9 + 6)
          have g7 := free_of hF2 (m * 9 + 7)
          have g8 := free_of hF2 (m * 9 + 8)
          have wk : IntKind.i64.wrap ((m : Int) + 1) = (m : Int) + 1 := by simp only [IntKind.wrap, IntKind.signed, IntKind.bits]; simp; omega
          have fin1 : ∃ arr : Array Value, (put9 wr W1.heap.size (m * 9) (.string (txt key)) (.int .i64 fj.k) (.bool fj.b) (.bool fj.n.neg) (.string (txt fj.n.dig)) (.int .i64 fj.n.exp) (.string (txt fj.s)) (.slice fj.pk fj.lk fj.ck) (.slice fj.a fj.lv fj.c)).heap[W1.heap.size]? = some (.cells arr 116 (0, 0)) ∧ arr.size = ks.length * 9 := by
            obtain ⟨arr', h1, h2⟩ := put9_own hF2 (.string (txt key)) (.int .i64 fj.k) (.bool fj.b) (.bool fj.n.neg) (.string (txt fj.n.dig)) (.int .i64 fj.n.exp) (.string (txt fj.s)) (.slice fj.pk fj.lk fj.ck) (.slice fj.a fj.lv fj.c) (o := m * 9)
            exact ⟨arr', h2, by omega⟩
          have fin2 : ∀ i, i < m + 1 → ∀ t, t < 9 → (put9 wr W1.heap.size (m * 9) (.string (txt key)) (.int .i64 fj.k) (.bool fj.b) (.bool fj.n.neg) (.string (txt fj.n.dig)) (.int .i64 fj.n.exp) (.string (txt fj.s)) (.slice fj.pk fj.lk fj.ck) (.slice fj.a fj.lv fj.c)).cell? ⟨W1.heap.size, i * 9 + t, none⟩ = (encR (fld ks vs fr i))[t]? := fun i hi t ht => by
            by_cases e : i = m
            · subst e
              rw [put9_at hF2 (by omega) _ _ _ _ _ _ _ _ _ t ht, HFLD.out]
              rfl
            · rw [put9_cell (by omega)]
              exact HROW.out i (by omega) t ht
          have fin3 : Below W1.heap.size W1 (put9 wr W1.heap.size (m * 9) (.string (txt key)) (.int .i64 fj.k) (.bool fj.b) (.bool fj.n.neg) (.string (txt fj.n.dig)) (.int .i64 fj.n.exp) (.string (txt fj.s)) (.slice fj.pk fj.lk fj.ck) (.slice fj.a fj.lv fj.c)) := put9_below HB2.out (Nat.le_refl _) _ _ _ _ _ _ _ _ _ _
          unfold put9 at fin1 fin2 fin3
          have F1 := Lib.hid fin1
          have F2 := Lib.hid fin2
          have F3 := Lib.hid fin3
          clear fin1 fin2 fin3 h8' b2
          go_wp2_with fail
          go_roundw
          case rel => exact ⟨m + 1, by omega, by go_num, F1.out, F2.out, F3.out⟩
          case measure => simp [intOf]; omega
        · obtain rfl : m = ks.length := by omega
          obtain ⟨W2, rfl⟩ : ∃ x, x = wr := ⟨_, rfl⟩
          obtain ⟨d, hd⟩ : ∃ d : Array FRow, ((List.range ks.length).map (fld ks vs fr)).toArray = d := ⟨_, rfl⟩
          have hdz : d.size = ks.length := by rw [← hd]; simp
          have hdi : ∀ i, i < ks.length → d[i]! = fld ks vs fr i := fun i hi => by
            rw [getElem!_pos d i (by omega)]
            simp [← hd]
          have hHK : HoldsK encR 9 W2 W1.heap.size 0 d := holdsK_of hdz ⟨_, _, hF2⟩ (fun i hi t ht => by rw [hdi i hi]; exact hrow i hi t ht)
          have hrise := rise_any (cap := ks.length) hHK hlF (by omega)
          rw [hdz] at hrise
          have HR := Lib.hid hrise
          have HD := Lib.hid hd
          have HDZ := Lib.hid hdz
          have HB2 := Lib.hid b2
          clear hrow hrise hHK hdi hd hdz hlt
          go_wp2_with fail
          refine HR.out.mono ?_
          rintro e w3 ⟨rfl, ⟨d', hz', hperm, hpw, hK'⟩, hg3⟩
          have hA3 := (hg3.block _ (by omega) (fun e => by injection e with e; omega)).trans hA2
          have HK3 := Lib.hid hK'
          have HPM := Lib.hid (And.intro hz' (And.intro hperm hpw))
          have HG3 := Lib.hid hg3
          have hz3 := hg3.size
          have hb2z := HB2.out.size
          have hFn : W1.heap.size < w3.heap.size := by omega
          -- the blocks of keys and kids are as long as they must be
          have hbig : ks ≠ [] → (∃ (arr : Array Value) (t : TypeId), w3.heap[gk]? = some (.cells arr t (0, 0)) ∧ ks.length ≤ arr.size) ∧ (∃ (arr : Array Value) (t : TypeId), w3.heap[g]? = some (.cells arr t (0, 0)) ∧ vs.length * 8 ≤ arr.size) := fun hne => by
            have h6 := HN.out.resolve_left hne
            have hpos : 0 < ks.length := List.length_pos_iff.2 hne
            have hnev : vs ≠ [] := fun e => by rw [e] at h6; simp at h6; exact hne h6.2
            obtain ⟨-, hg1, hg2, hgb⟩ := HG0.out hnev
            obtain ⟨-, hk1, hk2, hkb, hkc⟩ := HK0.out hne
            have q1 := HBL.out 0 vs.length (Nat.zero_le _) (Nat.le_refl _)
            have q2 := HBH.out.2
            have q3 := HP.out
            have hsame : ∀ q, q < bnd 0 → q < w.heap.size → w3.heap[q]? = w.heap[q]? := fun q h1 h2 => (hg3.block q (by omega) (fun e => by injection e with e; omega)).trans ((HB2.out.block q (by omega)).trans (HT.out.1.block q h1))
            obtain ⟨arrk, tk, hbk⟩ := hkb
            obtain ⟨arrg, tg, hbg⟩ := hgb
            refine ⟨⟨arrk, tk, (hsame gk (by omega) (lt_of_heap hbk)).trans hbk, ?_⟩, ⟨arrg, tg, (hsame g hg2 (lt_of_heap hbg)).trans hbg, ?_⟩⟩
            · have h1 := hkc (ks.length - 1) _ (List.getElem?_eq_getElem (by omega))
              rw [cell_of hbk] at h1
              have := (Array.getElem?_eq_some_iff.1 h1).1
              omega
            · have h1 := (HKID.out (vs.length - 1) _ (List.getElem?_eq_getElem (by omega))).1.2 7 (by omega)
              rw [cell_of hbg] at h1
              have h2 : (fr (vs.length - 1)).cells[7]? = some (.slice (fr (vs.length - 1)).a (fr (vs.length - 1)).lv (fr (vs.length - 1)).c) := rfl
              rw [h2] at h1
              have := (Array.getElem?_eq_some_iff.1 h1).1
              omega
          have HBIG := Lib.hid hbig
          clear hbig hK' hz' hperm hpw hg3 HR
          go_wp2_with fail
          go_loopw [46] (fun y wr => ∃ m : Nat, m ≤ ks.length ∧ y = .int .i64 m ∧ (m = 0 → wr.heap[g]? = w3.heap[g]?) ∧ (∀ i, i < m → wr.cell? ⟨gk, i, none⟩ = some (.string (txt (d'[i]!).key)) ∧ At8 wr g (i * 8) (d'[i]!).f.cells) ∧ (ks ≠ [] → (∃ (arr : Array Value) (t : TypeId), wr.heap[gk]? = some (.cells arr t (0, 0)) ∧ ks.length ≤ arr.size) ∧ (∃ (arr : Array Value) (t : TypeId), wr.heap[g]? = some (.cells arr t (0, 0)) ∧ vs.length * 8 ≤ arr.size)) ∧
            Below 0 w3 wr ∧ ∀ q, q < w3.heap.size → q ≠ gk ∨ ks = [] → q ≠ g ∨ ks = [] → wr.heap[q]? = w3.heap[q]?) (fun y _ => ks.length - (intOf y).toNat)
          case atStart => exact ⟨0, Nat.zero_le _, rfl, fun _ => rfl, fun i h => absurd h (Nat.not_lt_zero _), HBIG.out, Below.refl _ _, fun _ _ _ _ => rfl⟩
          case round =>
            obtain ⟨m, hm9, rfl, hm0, hdn, hbg, hB0, hoth⟩ := hrel
            have hBz := hB0.size
            by_cases hlt : m < ks.length
            · have hlt' : (m : Int) < (ks.length : Int) := by omega
              have hnek : ks ≠ [] := fun e => by rw [e] at hlt; exact absurd hlt (Nat.not_lt_zero _)
              have hltv : m < vs.length := by have h6 := HN.out.resolve_left hnek; omega
              have hltv' : (m : Int) < (vs.length : Int) := by omega
              have hnev : vs ≠ [] := fun e => by rw [e] at hltv; exact absurd hltv (Nat.not_lt_zero _)
              obtain ⟨rfl, hg1, hg2, hgb⟩ := HG0.out hnev
              obtain ⟨rfl, hk1, hk2, hkb, hkc⟩ := HK0.out hnek
              obtain ⟨⟨arrk, tk, hbk, hak⟩, ⟨arrg, tg, hbg2, hag⟩⟩ := hbg hnek
              have q2 := HBH.out.2
              have q3 := HP.out
              have q1 := HBL.out 0 vs.length (Nat.zero_le _) (Nat.le_refl _)
              have hgl : g < w.heap.size := hgb.lt
              have hkl := hkb.lt
              have hne1 : gk ≠ g := by omega
              have hA4 := (hoth w.heap.size (by omega) (.inl (by omega)) (.inl (by omega))).trans hA3
              have hFs := hoth W1.heap.size hFn (.inl (by omega)) (.inl (by omega))
              have hcF : ∀ t, t < 9 → wr.cell? ⟨W1.heap.size, m * 9 + t, none⟩ = (encR d'[m]!)[t]? := fun t ht => by
                have h1 := (HoldsK.cell HK3.out (i := m) (c := t) (by rw [HPM.out.1, HDZ.out]; exact hlt) ht).1
                rw [Nat.zero_add] at h1
                have h2 : (encR d'[m]!)[t]? = some ((encR d'[m]!)[t]!) := by
                  have hl : t < (encR d'[m]!).length := ht
                  rw [getElem!_pos (encR d'[m]!) t hl, List.getElem?_eq_getElem hl]
                rw [h2, ← h1]
                unfold World.cell?
                rw [hFs]
              have HDN := Lib.hid hdn
              have HOTH := Lib.hid hoth
              have HB0 := Lib.hid hB0
              obtain ⟨dm, hdm⟩ : ∃ dm, d'[m]! = dm := ⟨_, rfl⟩
              rw [hdm] at hcF
              have HDM := Lib.hid hdm
              clear hdm hdn hoth hB0 hbg hkc hkb hgb hm0
              obtain ⟨key, fm, sv⟩ := dm
              have y0 := hcF 0 (by omega)
              have y1 := hcF 1 (by omega)
              have y2 := hcF 2 (by omega)
              have y3 := hcF 3 (by omega)
              have y4 := hcF 4 (by omega)
              have y5 := hcF 5 (by omega)
              have y6 := hcF 6 (by omega)
              have y7 := hcF 7 (by omega)
              have y8 := hcF 8 (by omega)
              simp only [encR, F8.cells, Nat.add_zero, List.getElem?_cons_zero, List.getElem?_cons_succ] at y0 y1 y2 y3 y4 y5 y6 y7 y8
              have lW1 : W1.heap.size < wr.heap.size := by omega
              have hX := World.alloc_heap_new wr (.cells #[.string (txt key), .int .i64 fm.k, .bool fm.b, .bool fm.n.neg, .string (txt fm.n.dig), .int .i64 fm.n.exp, .string (txt fm.s), .slice fm.pk fm.lk fm.ck, .slice fm.a fm.lv fm.c] 116)
              have hA5 := new_of hA4 (.cells #[.string (txt key), .int .i64 fm.k, .bool fm.b, .bool fm.n.neg, .string (txt fm.n.dig), .int .i64 fm.n.exp, .string (txt fm.s), .slice fm.pk fm.lk fm.ck, .slice fm.a fm.lv fm.c] 116)
              have hbk5 := new_of hbk (.cells #[.string (txt key), .int .i64 fm.k, .bool fm.b, .bool fm.n.neg, .string (txt fm.n.dig), .int .i64 fm.n.exp, .string (txt fm.s), .slice fm.pk fm.lk fm.ck, .slice fm.a fm.lv fm.c] 116)
              have hbg5 := new_of hbg2 (.cells #[.string (txt key), .int .i64 fm.k, .bool fm.b, .bool fm.n.neg, .string (txt fm.n.dig), .int .i64 fm.n.exp, .string (txt fm.s), .slice fm.pk fm.lk fm.ck, .slice fm.a fm.lv fm.c] 116)
              obtain ⟨wB, hwB⟩ : ∃ wB, wr.alloc (.cells #[.string (txt key), .int .i64 fm.k, .bool fm.b, .bool fm.n.neg, .string (txt fm.n.dig), .int .i64 fm.n.exp, .string (txt fm.s), .slice fm.pk fm.lk fm.ck, .slice fm.a fm.lv fm.c] 116) = wB := ⟨_, rfl⟩
              have bC : Below wr.heap.size wr wB := by
                rw [← hwB]
                exact (Below.refl _ wr).alloc (Nat.le_refl _) _
              rw [hwB] at hX hA5 hbk5 hbg5
              have HW := Lib.hid hwB
              clear hwB hcF
              have a6 := cell_of hA5 6
              have a7 := cell_of hA5 7
              have p0 := cell_of hX 0
              have p1 := cell_of hX 1
              have p2 := cell_of hX 2
              have p3 := cell_of hX 3
              have p4 := cell_of hX 4
              have p5 := cell_of hX 5
              have p6 := cell_of hX 6
              have p7 := cell_of hX 7
              have p8 := cell_of hX 8
              have s0 : wB.cell? ⟨gk, m, none⟩ = some arrk[m] := (cell_of hbk5 m).trans (Array.getElem?_eq_getElem (by omega))
              have r0 := free_of hbk5 m
              obtain ⟨z0, z1, z2, z3, z4, z5, z6, z7, f0, f1, f2, f3, f4, f5, f6, f7⟩ := block8 hbg5 (o := m * 8) (by omega)
              have g0 := free_of hbg5 (m * 8)
              have g1 := free_of hbg5 (m * 8 + 1)
              have g2 := free_of hbg5 (m * 8 + 2)
              have g3 := free_of hbg5 (m * 8 + 3)
              have g4 := free_of hbg5 (m * 8 + 4)
              have g5 := free_of hbg5 (m * 8 + 5)
              have g6 := free_of hbg5 (m * 8 + 6)
              have g7 := free_of hbg5 (m * 8 + 7)
              have wk : IntKind.i64.wrap ((m : Int) + 1) = (m : Int) + 1 := by simp only [IntKind.wrap, IntKind.signed, IntKind.bits]; simp; omega
              have n1 : ¬ gk = g := hne1
              have n2 : ¬ g = gk := fun e => hne1 e.symm
              simp only [List.getElem?_toArray, List.getElem?_cons_zero, List.getElem?_cons_succ] at a6 a7 p0 p1 p2 p3 p4 p5 p6 p7 p8
              have hg5 : (wB.setCell ⟨gk, m, none⟩ (.string (txt key))).heap[g]? = some (.cells arrg tg (0, 0)) := (setc_other _ n2).trans hbg5
              have hk5 := set_of hbk5 m (.string (txt key))
              obtain ⟨Q0, hQ0⟩ : ∃ Q0, wB.setCell ⟨gk, m, none⟩ (.string (txt key)) = Q0 := ⟨_, rfl⟩
              have hq1 : ∀ q, q ≠ gk → Q0.heap[q]? = wB.heap[q]? := fun q hq => by
                rw [← hQ0]
                exact setc_other _ hq
              have hq2 : Q0.cell? ⟨gk, m, none⟩ = some (.string (txt key)) := by
                rw [← hQ0]
                exact World.cell?_setCell_same _ _ _ s0
              have hq3 : ∀ i, i ≠ m → Q0.cell? ⟨gk, i, none⟩ = wB.cell? ⟨gk, i, none⟩ := fun i hi => by
                rw [← hQ0]
                exact World.cell?_setCell_other _ _ _ _ (fun h => hi (by injection h with _ h _; exact h.symm))
              have hq5 : Below 0 w3 Q0 := by
                rw [← hQ0]
                exact (HB0.out.trans (bC.mono (Nat.zero_le _))).setCell (p := ⟨gk, m, none⟩) (Nat.zero_le _) _
              rw [hQ0] at hg5 hk5
              obtain ⟨P0, hP0⟩ : ∃ P0, put8 Q0 g (m * 8) (.int .i64 fm.k) (.bool fm.b) (.bool fm.n.neg) (.string (txt fm.n.dig)) (.int .i64 fm.n.exp) (.string (txt fm.s)) (.slice fm.pk fm.lk fm.ck) (.slice fm.a fm.lv fm.c) = P0 := ⟨_, rfl⟩
              have hp1 : ∀ q, q ≠ g → P0.heap[q]? = Q0.heap[q]? := fun q hq => by
                rw [← hP0]
                exact put8_block hq _ _ _ _ _ _ _ _
              have hp2 : At8 P0 g (m * 8) fm.cells := by
                rw [← hP0]
                exact put8_at hg5 (by omega) _ _ _ _ _ _ _ _
              have hp3 : ∀ i, i < m * 8 ∨ m * 8 + 8 ≤ i → P0.cell? ⟨g, i, none⟩ = Q0.cell? ⟨g, i, none⟩ := fun i hi => by
                rw [← hP0]
                exact put8_cell hi _ _ _ _ _ _ _ _
              have hp4 : ∃ arr' : Array Value, arr'.size = arrg.size ∧ P0.heap[g]? = some (.cells arr' tg (0, 0)) := by
                rw [← hP0]
                exact put8_own hg5 _ _ _ _ _ _ _ _
              have hp5 : Below 0 w3 P0 := by
                rw [← hP0]
                exact put8_below hq5 (Nat.zero_le _) _ _ _ _ _ _ _ _ _
              have fin1 : ∀ i, i < m + 1 → P0.drew.cell? ⟨gk, i, none⟩ = some (.string (txt (d'[i]!).key)) ∧ At8 P0.drew g (i * 8) (d'[i]!).f.cells := fun i hi => by
                have hgkb : ∀ t, P0.cell? ⟨gk, t, none⟩ = Q0.cell? ⟨gk, t, none⟩ := fun t => by
                  unfold World.cell?
                  rw [hp1 gk n1]
                by_cases e : i = m
                · subst e
                  rw [HDM.out]
                  exact ⟨(hgkb _).trans hq2, hp2⟩
                · obtain ⟨o1, o2⟩ := HDN.out i (by omega)
                  refine ⟨?_, rfl, fun t ht => ?_⟩
                  · refine (hgkb i).trans ((hq3 i e).trans ?_)
                    rw [← o1]
                    unfold World.cell?
                    rw [bC.block gk (lt_of_heap hbk)]
                  · refine (hp3 (i * 8 + t) (by omega)).trans ?_
                    rw [← o2.2 t ht]
                    unfold World.cell?
                    rw [hq1 g n2, bC.block g (lt_of_heap hbg2)]
              have fin2 : (∃ (arr : Array Value) (t : TypeId), P0.drew.heap[gk]? = some (.cells arr t (0, 0)) ∧ ks.length ≤ arr.size) ∧ (∃ (arr : Array Value) (t : TypeId), P0.drew.heap[g]? = some (.cells arr t (0, 0)) ∧ vs.length * 8 ≤ arr.size) := by
                refine ⟨⟨_, tk, (hp1 gk n1).trans hk5, by rw [Array.size_setIfInBounds]; exact hak⟩, ?_⟩
                obtain ⟨arr', h1, h2⟩ := hp4
                exact ⟨arr', tg, h2, by omega⟩
              have fin3 : Below 0 w3 P0.drew := below_drewN hp5 1
              have fin4 : ∀ q, q < w3.heap.size → q ≠ gk ∨ ks = [] → q ≠ g ∨ ks = [] → P0.drew.heap[q]? = w3.heap[q]? := fun q h1 h2 h3 =>
                (hp1 q (h3.resolve_right hnek)).trans ((hq1 q (h2.resolve_right hnek)).trans ((bC.block q (by omega)).trans (HOTH.out q h1 h2 h3)))
              unfold put8 at hP0
              have F1 := Lib.hid fin1
              have F2 := Lib.hid fin2
              have F3 := Lib.hid fin3
              have F4 := Lib.hid fin4
              have HQ0 := Lib.hid hQ0
              have HP0 := Lib.hid hP0
              clear fin1 fin2 fin3 fin4 hg5 hk5 hq1 hq2 hq3 hq5 hp1 hp2 hp3 hp4 hp5 hQ0 hP0
              go_wp2_with fail
              rw [HW.out]
              go_wp2_with fail
              go_region
              rw [HQ0.out, HP0.out]
              go_wp2_with fail
              go_roundw
              case rel =>
                exact ⟨m + 1, by omega, by go_num, fun h => absurd h (by omega), F1.out, fun _ => F2.out, F3.out, F4.out⟩
              case measure => simp [intOf]; omega
            · obtain rfl : m = ks.length := by omega
              have q2 := HBH.out.2
              have q3 := HP.out
              have q1 := HBL.out 0 vs.length (Nat.zero_le _) (Nat.le_refl _)
              have hgkr : ks ≠ [] → lo ≤ gk ∧ gk < p := fun hne => ⟨(HK0.out hne).2.1, (HK0.out hne).2.2.1⟩
              have hvne : ks ≠ [] → vs ≠ [] := fun hne e => by
                have h6 := HN.out.resolve_left hne
                have := List.length_pos_iff.2 hne
                rw [e] at h6
                simp at h6
                exact hne h6.2
              have hgr : vs ≠ [] → a = some ⟨g, 0, none⟩ ∧ p ≤ g ∧ g < bnd 0 ∧ Blk w g := HG0.out
              have hsame : ∀ q, q < w.heap.size → (ks ≠ [] → q ≠ gk) → (ks ≠ [] → q ≠ g) → wr.heap[q]? = W1.heap[q]? := fun q h1 h2 h3 => by
                have n1 : q ≠ gk ∨ ks = [] := by
                  by_cases e : ks = []
                  · exact .inr e
                  · exact .inl (h2 e)
                have n2 : q ≠ g ∨ ks = [] := by
                  by_cases e : ks = []
                  · exact .inr e
                  · exact .inl (h3 e)
                exact (hoth q (by omega) n1 n2).trans ((HG3.out.block q (by omega) (fun e => by injection e with e; omega)).trans (HB2.out.block q (by omega)))
              have hb1 := HT.out
              have hturn : Turn lo hi w wr := by
                refine ⟨⟨?_, ?_, ?_, by omega, fun q hq => ?_⟩, fun q h1 h2 => ?_⟩
                · exact hB0.os.trans (HG3.out.os.trans (HB2.out.os.trans hb1.1.os))
                · exact hB0.tape.trans (HG3.out.tape.trans (HB2.out.tape.trans hb1.1.tape))
                · exact hB0.output.trans (HG3.out.output.trans (HB2.out.output.trans hb1.1.output))
                · exact (hsame q (by omega) (fun h => by have := hgkr h; omega) (fun h => by have := hgr (hvne h); omega)).trans (hb1.1.block q (by omega))
                · exact (hsame q h2 (fun h => by have := hgkr h; omega) (fun h => by have := hgr (hvne h); omega)).trans (hb1.2 q h1 h2)
              have hkeep : ∀ (j : Nat) (x : Val), vs[j]? = some x → HoldP (fun q => lo ≤ q ∧ q < hi) wr (fr j).cells (sort x) := fun j x hx => by
                have hj2 := (List.getElem?_eq_some_iff.1 hx).1
                have r1 := HBL.out 0 j (Nat.zero_le _) (by omega)
                have r2 := HBL.out (j + 1) vs.length (by omega) (Nat.le_refl _)
                refine HoldP.mono (fun q hq _ => ⟨by omega, by omega⟩) (sort x) (HoldP.keep (w := W1) (by omega) (fun q hq hlt => ?_) (sort x) (HH1.out j x hx))
                exact hsame q (by omega) (fun h => by have := hgkr h; omega) (fun h => by have := hgr (hvne h); omega)
              have hfin : HoldP (fun q => lo ≤ q ∧ q < hi) wr (cellsV k b n s (.slice ak ks.length ck) (.slice a vs.length c)) (sort ⟨k, b, n, s, ks, vs⟩) := by
                have hgb := hb1.1
                by_cases h6 : k = 6
                · subst h6
                  have hl := HN6.out.1 rfl
                  by_cases hne : ks = []
                  · have hv0 : vs = [] := List.length_eq_zero_iff.1 (by rw [← hl, hne]; rfl)
                    subst hne
                    subst hv0
                    exact sorted_none hmk hm
                  · obtain ⟨ha, hg1, hg2, hgB⟩ := hgr (hvne hne)
                    obtain ⟨hak, hk1, hk2, hkB, -⟩ := HK0.out hne
                    have hgl := hgB.lt
                    have hkl := hkB.lt
                    refine sorted_obj (d' := d') hl HND.out hck hmk hc hm hak ha ⟨hk1, by omega⟩ ⟨by omega, by omega⟩ (by omega) (by omega) (by rw [HPM.out.1, HDZ.out]) ?_ HPM.out.2.2 hdn hkeep
                    have := HPM.out.2.1
                    rwa [← HD.out] at this
                · have hk0 := HN6.out.2 h6
                  subst hk0
                  refine sorted_list h6 hmk hc hm (fun hne => ⟨(hgr hne).1, ⟨by have := (hgr hne).2.1; omega, by have := (hgr hne).2.2.1; omega⟩, by have := (hgr hne).2.2.2.lt; omega⟩) fun i x hx => ⟨⟨rfl, fun t ht => ?_⟩, hkeep i x hx⟩
                  have hvn : vs ≠ [] := fun e => by rw [e] at hx; simp at hx
                  obtain ⟨-, hg1, hg2, hgB⟩ := hgr hvn
                  have hgl := hgB.lt
                  rw [← (HKID.out i x hx).1.2 t ht]
                  unfold World.cell?
                  rw [hsame g hgl (fun h => absurd rfl h) (fun h => absurd rfl h), hb1.1.block g hg2]
              have FIN := Lib.hid (show Sorted lo hi (cellsV k b n s (.slice ak ks.length ck) (.slice a vs.length c)) ⟨k, b, n, s, ks, vs⟩ w (.returned (.tuple #[])) wr from ⟨rfl, hfin, hturn⟩)
              clear hfin hturn hkeep hsame hoth hdn hbg hm0 hB0
              go_wp2_with fail
              go_end0
              exact FIN.out
end Go.Proofs.YtlfbnfphocpgeaaGreatDoor.Tre
namespace Go.Proofs.YtlfbnfphocpgeaaGreatDoor.Tre
open Go.RowKit Kit Txt
open Num (Dec zero)
set_option maxRecDepth 100000 in
set_option maxHeartbeats 8000000 in
theorem tsort_of {w : World} (ho : Utf.Laid w) {v : Val} {u : Value} (hm : Mild v) (hc : count v < 1000000) (h : HoldV w u v) : Calls Tryz.prog 32 #[u] w fun e w' => (∃ y, e = .returned y ∧ (Right v → HoldV w' y (sort v)) ∧ (¬ Right v → HoldV w' y v)) ∧ Below w.heap.size w w' := by
  have hcopy := fun (wx : World) (hb : Below w.heap.size w wx) => tcopy_of v hm hc wx u (h.below hb)
  have hright := fun (wx : World) (hb : Below w.heap.size w wx) => tright_of hm (ho.below hb ho.lt) (h.below hb)
  have hso := sortobj_any v hc
  obtain ⟨pk, ck, a, c, rfl⟩ := holdV_form h
  have hA := new_of (World.alloc_heap_new w (.cells #[.int .i64 v.kind, .bool v.is, .bool v.num.neg, .string (txt v.num.dig), .int .i64 v.num.exp, .string (txt v.str), .slice pk v.keys.length ck, .slice a v.kids.length c] 29)) (.cells #[.int .i64 0, .bool false, .bool false, .string ⟨#[]⟩, .int .i64 0, .string ⟨#[]⟩, .slice none 0 0, .slice none 0 0] 29)
  have hB := World.alloc_heap_new (w.alloc (.cells #[.int .i64 v.kind, .bool v.is, .bool v.num.neg, .string (txt v.num.dig), .int .i64 v.num.exp, .string (txt v.str), .slice pk v.keys.length ck, .slice a v.kids.length c] 29)) (.cells #[.int .i64 0, .bool false, .bool false, .string ⟨#[]⟩, .int .i64 0, .string ⟨#[]⟩, .slice none 0 0, .slice none 0 0] 29)
  rw [World.size_alloc] at hB
  obtain ⟨w0, hw0⟩ : ∃ w0, (w.alloc (.cells #[.int .i64 v.kind, .bool v.is, .bool v.num.neg, .string (txt v.num.dig), .int .i64 v.num.exp, .string (txt v.str), .slice pk v.keys.length ck, .slice a v.kids.length c] 29)).alloc (.cells #[.int .i64 0, .bool false, .bool false, .string ⟨#[]⟩, .int .i64 0, .string ⟨#[]⟩, .slice none 0 0, .slice none 0 0] 29) = w0 := ⟨_, rfl⟩
  have b0 : Below w.heap.size w w0 := by
    rw [← hw0]
    exact ((Below.refl _ w).alloc (Nat.le_refl _) _).alloc (by simp) _
  have z0 : w0.heap.size = w.heap.size + 2 := by rw [← hw0]; simp
  rw [hw0] at hA hB
  have hform := fun (w' : World) (cs : List Value) (lo hi : Nat) (hs : Sep w' lo hi cs v) => holdV_form (v := v) ⟨cs, rfl, HoldP.hold v (Sep.holdP v hs)⟩
  have HF := Lib.hid hform
  have HC := Lib.hid (hcopy w0 b0)
  have HR := Lib.hid hright
  have HS := Lib.hid hso
  have hrw : Right v → Whole v := fun h => h.2
  generalize Right v = q at *
  have HRW := Lib.hid hrw
  clear hcopy hright hso hform h hrw
  generalize hk0 : v.kind = k0 at *
  generalize hi0 : v.is = i0 at *
  generalize hn0 : v.num = n0 at *
  generalize hs0 : v.str = s0 at *
  generalize hlk0 : v.keys.length = lk0 at *
  generalize hlv0 : v.kids.length = lv0 at *
  have HEQ := Lib.hid (And.intro hk0 (And.intro hi0 (And.intro hn0 (And.intro hs0 (And.intro hlk0 hlv0)))))
  clear hk0 hi0 hn0 hs0 hlk0 hlv0
  obtain ⟨c0, c1, c2', c3, c4, c5, c6, c7⟩ := eight hA
  go_enter Tryz.func32, Tryz.ntmps32
  go_wp2_with fail
  clear hw0
  refine HC.out.mono ?_
  rintro e w1 ⟨⟨cs, rfl, hsep⟩, k1⟩
  have b1 := b0.trans (k1.mono b0.size)
  have hA1 := (k1.block _ (lt_of_heap hA)).trans hA
  have hB1 := (k1.block _ (lt_of_heap hB)).trans hB
  obtain ⟨pk2, ck2, a2, c2, he⟩ := HF.out w1 cs _ _ hsep
  injection he with he
  have he2 : cs = [.int .i64 k0, .bool i0, .bool n0.neg, .string (txt n0.dig), .int .i64 n0.exp, .string (txt s0), .slice pk2 lk0 ck2, .slice a2 lv0 c2] := by simpa using congrArg Array.toList he
  subst he2
  clear he HF c0 c1 c2' c3 c4 c5 c6 c7 hA hB HC
  have hX := World.alloc_heap_new w1 (.cells #[.int .i64 k0, .bool i0, .bool n0.neg, .string (txt n0.dig), .int .i64 n0.exp, .string (txt s0), .slice pk2 lk0 ck2, .slice a2 lv0 c2] 29)
  have hA2 := new_of hA1 (.cells #[.int .i64 k0, .bool i0, .bool n0.neg, .string (txt n0.dig), .int .i64 n0.exp, .string (txt s0), .slice pk2 lk0 ck2, .slice a2 lv0 c2] 29)
  have hB2 := new_of hB1 (.cells #[.int .i64 k0, .bool i0, .bool n0.neg, .string (txt n0.dig), .int .i64 n0.exp, .string (txt s0), .slice pk2 lk0 ck2, .slice a2 lv0 c2] 29)
  obtain ⟨w2, hw2⟩ : ∃ w2, w1.alloc (.cells #[.int .i64 k0, .bool i0, .bool n0.neg, .string (txt n0.dig), .int .i64 n0.exp, .string (txt s0), .slice pk2 lk0 ck2, .slice a2 lv0 c2] 29) = w2 := ⟨_, rfl⟩
  have k2 : Below w1.heap.size w1 w2 := by
    rw [← hw2]
    exact (Below.refl _ w1).alloc (Nat.le_refl _) _
  have z2 : w2.heap.size = w1.heap.size + 1 := by rw [← hw2]; simp
  rw [hw2] at hX hA2 hB2
  have b2 := b1.trans (k2.mono b1.size)
  have HR2 := Lib.hid (HR.out w2 b2)
  have HSEP := Lib.hid hsep
  clear hsep HR
  obtain ⟨c0, c1, c2', c3, c4, c5, c6, c7⟩ := eight hA2
  go_wp2_with fail
  clear hw2
  refine HR2.out.mono ?_
  rintro e w3 ⟨⟨r, rfl, hr⟩, k3⟩
  have z3 := k3.size
  have z1 := k1.size
  have b3 := b2.trans (k3.mono b2.size)
  have hB3 := (k3.block _ (lt_of_heap hB2)).trans hB2
  have hX3 := (k3.block _ (lt_of_heap hX)).trans hX
  have hS3 : Sep w3 w0.heap.size w1.heap.size [.int .i64 k0, .bool i0, .bool n0.neg, .string (txt n0.dig), .int .i64 n0.exp, .string (txt s0), .slice pk2 lk0 ck2, .slice a2 lv0 c2] v := Sep.keep v (fun q _ h2 => (k3.block q (by omega)).trans (k2.block q h2)) HSEP.out
  have HS3 := Lib.hid hS3
  clear hS3 c0 c1 c2' c3 c4 c5 c6 c7 hA1 hA2 hB1 hB2 HR2 HSEP
  cases r with
  | true =>
    have hq : q := hr.1 rfl
    have hcall := HS.out (HRW.out hq) w3 w0.heap.size w1.heap.size _ HS3.out z1 (by omega)
    have HCALL := Lib.hid (show Calls Tryz.prog 54 #[.agg #[.int .i64 k0, .bool i0, .bool n0.neg, .string (txt n0.dig), .int .i64 n0.exp, .string (txt s0), .slice pk2 lk0 ck2, .slice a2 lv0 c2]] w3 (Sorted w0.heap.size w1.heap.size [.int .i64 k0, .bool i0, .bool n0.neg, .string (txt n0.dig), .int .i64 n0.exp, .string (txt s0), .slice pk2 lk0 ck2, .slice a2 lv0 c2] v w3) from hcall)
    have HQ := Lib.hid hq
    clear hcall hr hq
    obtain ⟨c0, c1, c2', c3, c4, c5, c6, c7⟩ := eight hX3
    go_wp2_with fail
    refine HCALL.out.mono ?_
    rintro e w4 ⟨rfl, hH, hT⟩
    have z4 := hT.1.size
    have b4 : Below w.heap.size w w4 := b3.trans (hT.1.mono (by omega))
    have hB4 := (hT.1.block _ (by omega)).trans hB3
    have hX4 := (hT.2 w1.heap.size (Nat.le_refl _) (by omega)).trans hX3
    have hV : HoldV w4 (.agg #[.int .i64 k0, .bool i0, .bool n0.neg, .string (txt n0.dig), .int .i64 n0.exp, .string (txt s0), .slice pk2 lk0 ck2, .slice a2 lv0 c2]) (sort v) := ⟨_, rfl, HoldP.hold _ hH⟩
    have hfin : (∃ y, Ending.returned (.agg #[.int .i64 k0, .bool i0, .bool n0.neg, .string (txt n0.dig), .int .i64 n0.exp, .string (txt s0), .slice pk2 lk0 ck2, .slice a2 lv0 c2]) = .returned y ∧ (q → HoldV (put8 w4 (w.heap.size + 1) 0 (.int .i64 k0) (.bool i0) (.bool n0.neg) (.string (txt n0.dig)) (.int .i64 n0.exp) (.string (txt s0)) (.slice pk2 lk0 ck2) (.slice a2 lv0 c2)) y (sort v)) ∧ (¬ q → HoldV (put8 w4 (w.heap.size + 1) 0 (.int .i64 k0) (.bool i0) (.bool n0.neg) (.string (txt n0.dig)) (.int .i64 n0.exp) (.string (txt s0)) (.slice pk2 lk0 ck2) (.slice a2 lv0 c2)) y v)) ∧ Below w.heap.size w (put8 w4 (w.heap.size + 1) 0 (.int .i64 k0) (.bool i0) (.bool n0.neg) (.string (txt n0.dig)) (.int .i64 n0.exp) (.string (txt s0)) (.slice pk2 lk0 ck2) (.slice a2 lv0 c2)) :=
      ⟨⟨_, rfl, fun _ => ⟨_, rfl, HoldP.hold _ (HoldP.keep (by rw [put8_size]; exact Nat.le_refl _) (fun q' hq' _ => put8_block (by omega) _ _ _ _ _ _ _ _) _ hH)⟩, fun h => absurd HQ.out h⟩, put8_below b4 (by omega) _ _ _ _ _ _ _ _ _⟩
    have h9 := set8_own hB4 (.int .i64 k0) (.bool i0) (.bool n0.neg) (.string (txt n0.dig)) (.int .i64 n0.exp) (.string (txt s0)) (.slice pk2 lk0 ck2) (.slice a2 lv0 c2)
    unfold put8 at hfin
    have FIN := Lib.hid hfin
    have H9 := Lib.hid h9
    clear hfin h9 hV hH hT c0 c1 c2' c3 c4 c5 c6 c7
    obtain ⟨c0, c1, c2', c3, c4, c5, c6, c7⟩ := eight hX4
    obtain ⟨d0, d1, d2, d3, d4, d5, d6, d7⟩ := eight hB4
    have g0 := free_of hB4 0
    have g1 := free_of hB4 1
    have g2 := free_of hB4 2
    have g3 := free_of hB4 3
    have g4 := free_of hB4 4
    have g5 := free_of hB4 5
    have g6 := free_of hB4 6
    have g7 := free_of hB4 7
    go_wp2_with fail
    obtain ⟨d0, d1, d2, d3, d4, d5, d6, d7⟩ := eight H9.out
    refine bodyPost_ret (v := .agg #[.int .i64 k0, .bool i0, .bool n0.neg, .string (txt n0.dig), .int .i64 n0.exp, .string (txt s0), .slice pk2 lk0 ck2, .slice a2 lv0 c2]) (by simp [results, Tryz.results32, go_sem, d0, d1, d2, d3, d4, d5, d6, d7]) rfl ?_
    exact FIN.out
  | false =>
    have hq : ¬ q := fun h => absurd (hr.2 h) (by decide)
    have HQ := Lib.hid hq
    clear hr hq
    have hfin : (∃ y, Ending.returned (.agg #[.int .i64 k0, .bool i0, .bool n0.neg, .string (txt n0.dig), .int .i64 n0.exp, .string (txt s0), .slice pk2 lk0 ck2, .slice a2 lv0 c2]) = .returned y ∧ (q → HoldV (put8 w3 (w.heap.size + 1) 0 (.int .i64 k0) (.bool i0) (.bool n0.neg) (.string (txt n0.dig)) (.int .i64 n0.exp) (.string (txt s0)) (.slice pk2 lk0 ck2) (.slice a2 lv0 c2)) y (sort v)) ∧ (¬ q → HoldV (put8 w3 (w.heap.size + 1) 0 (.int .i64 k0) (.bool i0) (.bool n0.neg) (.string (txt n0.dig)) (.int .i64 n0.exp) (.string (txt s0)) (.slice pk2 lk0 ck2) (.slice a2 lv0 c2)) y v)) ∧ Below w.heap.size w (put8 w3 (w.heap.size + 1) 0 (.int .i64 k0) (.bool i0) (.bool n0.neg) (.string (txt n0.dig)) (.int .i64 n0.exp) (.string (txt s0)) (.slice pk2 lk0 ck2) (.slice a2 lv0 c2)) :=
      ⟨⟨_, rfl, fun h => absurd h HQ.out, fun _ => ⟨_, rfl, HoldP.hold _ (Sep.holdP v (Sep.keep v (fun q' h1 _ => put8_block (by omega) _ _ _ _ _ _ _ _) HS3.out))⟩⟩, put8_below b3 (by omega) _ _ _ _ _ _ _ _ _⟩
    have h9 := set8_own hB3 (.int .i64 k0) (.bool i0) (.bool n0.neg) (.string (txt n0.dig)) (.int .i64 n0.exp) (.string (txt s0)) (.slice pk2 lk0 ck2) (.slice a2 lv0 c2)
    unfold put8 at hfin
    have FIN := Lib.hid hfin
    have H9 := Lib.hid h9
    clear hfin h9
    obtain ⟨c0, c1, c2', c3, c4, c5, c6, c7⟩ := eight hX3
    obtain ⟨d0, d1, d2, d3, d4, d5, d6, d7⟩ := eight hB3
    have g0 := free_of hB3 0
    have g1 := free_of hB3 1
    have g2 := free_of hB3 2
    have g3 := free_of hB3 3
    have g4 := free_of hB3 4
    have g5 := free_of hB3 5
    have g6 := free_of hB3 6
    have g7 := free_of hB3 7
    go_wp2_with fail
    obtain ⟨d0, d1, d2, d3, d4, d5, d6, d7⟩ := eight H9.out
    refine bodyPost_ret (v := .agg #[.int .i64 k0, .bool i0, .bool n0.neg, .string (txt n0.dig), .int .i64 n0.exp, .string (txt s0), .slice pk2 lk0 ck2, .slice a2 lv0 c2]) (by simp [results, Tryz.results32, go_sem, d0, d1, d2, d3, d4, d5, d6, d7]) rfl ?_
    exact FIN.out
end Go.Proofs.YtlfbnfphocpgeaaGreatDoor.Tre
namespace Go.Proofs.YtlfbnfphocpgeaaGreatDoor.Kit
open Go.ChangeShapes Go.WideShapes Go.ChangeAt Go.RowKit
/-- A type of numbers, flags, arrays and structs of such, whose parts fill it. -/
def plainT (P : Program) : Nat → TypeId → Bool
  | 0, _ => false
  | f + 1, t => match P.underlying t with
    | some .bool => true
    | some (.int _) => true
    | some (.array n e) => plainT P f e && (n * P.cellsOf e == P.cellsOf t)
    | some (.struct fs) => fs.toList.all (fun x => plainT P f x.type) && (List.range (P.cellsOf t)).all (fun j => (List.range fs.size).any fun i => match fs[i]? with | some x => decide (x.offset ≤ j) && decide (j < x.offset + P.cellsOf x.type) | none => false)
    | _ => false
theorem chunk_at {cs ds : List Value} {o k j : Nat} (h : (cs.drop o).take k = (ds.drop o).take k) (h1 : o ≤ j) (h2 : j < o + k) : cs[j]? = ds[j]? := by
  have := congrArg (fun l => l[j - o]?) h
  simp only [List.getElem?_take, List.getElem?_drop] at this
  rw [if_pos (by omega), if_pos (by omega), show o + (j - o) = j by omega] at this
  exact this
theorem trod_inj {H : Type} {enc : TypeId × Value → H} {P : Program} {w : World} {base : Nat} {sp : Nat → Bool} {held : Bool} : ∀ (f : Nat) (t : TypeId) (a b : Nat) (cs ds : List Value) (d : DataW H) (p q : List MemPlace),
    plainT P f t = true → DataW.trod enc P w base sp held a t cs = some (d, p) → DataW.trod enc P w base sp held b t ds = some (d, q) → cs = ds
  | 0, _, _, _, _, _, _, _, _, h, _, _ => by simp [plainT] at h
  | f + 1, t, a, b, cs, ds, d, p, q, h, h1, h2 => by
    unfold plainT at h
    split at h
    · rename_i ht
      obtain ⟨x, rfl, e1⟩ := DataW.trod_bool ht h1
      obtain ⟨y, rfl, e2⟩ := DataW.trod_bool ht h2
      rw [Prod.mk.injEq] at e1 e2
      rw [e1.1] at e2
      have := e2.1
      simp at this
      rw [this]
    · rename_i k ht
      obtain ⟨x, rfl, e1, _⟩ := DataW.trod_int ht h1
      obtain ⟨y, rfl, e2, _⟩ := DataW.trod_int ht h2
      rw [Prod.mk.injEq] at e1 e2
      rw [e1.1] at e2
      have := e2.1
      simp at this
      rw [this]
    · rename_i n e ht
      rw [Bool.and_eq_true, beq_iff_eq] at h
      obtain ⟨xs, m, _, e1, l1, n1, k1⟩ := DataW.trod_array ht h1
      obtain ⟨ys, m', _, e2, l2, n2, k2⟩ := DataW.trod_array ht h2
      rw [Prod.mk.injEq] at e1 e2
      have he : xs.map (·.1) = ys.map (·.1) := by
        have := e1.1.symm.trans e2.1
        simpa using this
      refine List.ext_getElem? fun j => ?_
      by_cases hj : j < P.cellsOf t
      · have hk : 0 < P.cellsOf e := by
          rcases Nat.eq_zero_or_pos (P.cellsOf e) with h0 | h0
          · rw [h0] at h; omega
          · exact h0
        have hi : j / P.cellsOf e < n := by
          rw [Nat.div_lt_iff_lt_mul hk, h.2]; exact hj
        obtain ⟨x, hx⟩ : ∃ x, xs[j / P.cellsOf e]? = some x := ⟨_, List.getElem?_eq_getElem (by omega)⟩
        obtain ⟨y, hy⟩ : ∃ y, ys[j / P.cellsOf e]? = some y := ⟨_, List.getElem?_eq_getElem (by omega)⟩
        have r1 := (k1 _ hi).trans hx
        have r2 := (k2 _ hi).trans hy
        have hxy : x.1 = y.1 := by
          have := congrArg (fun l => l[j / P.cellsOf e]?) he
          simpa [hx, hy] using this
        obtain ⟨x1, x2⟩ := x
        obtain ⟨y1, y2⟩ := y
        obtain rfl : x1 = y1 := hxy
        have hc := trod_inj f e _ _ _ _ _ _ _ h.1 r1 r2
        have hm := Nat.div_add_mod j (P.cellsOf e)
        have hm2 := Nat.mod_lt j hk
        rw [Nat.mul_comm] at hm
        exact chunk_at hc (by omega) (by omega)
      · rw [List.getElem?_eq_none (by omega), List.getElem?_eq_none (by omega)]
    · rename_i fs ht
      rw [Bool.and_eq_true, List.all_eq_true, List.all_eq_true] at h
      obtain ⟨xs, m, _, e1, l1, n1, k1⟩ := DataW.trod_struct ht h1
      obtain ⟨ys, m', _, e2, l2, n2, k2⟩ := DataW.trod_struct ht h2
      rw [Prod.mk.injEq] at e1 e2
      have he : xs.map (·.1) = ys.map (·.1) := by
        have := e1.1.symm.trans e2.1
        simpa using this
      refine List.ext_getElem? fun j => ?_
      by_cases hj : j < P.cellsOf t
      · have hcov := h.2 j (List.mem_range.2 hj)
        rw [List.any_eq_true] at hcov
        obtain ⟨i, hi, hb⟩ := hcov
        split at hb
        · rename_i fd hfd
          rw [Bool.and_eq_true, decide_eq_true_eq, decide_eq_true_eq] at hb
          have hi' := List.mem_range.1 hi
          obtain ⟨x, hx⟩ : ∃ x, xs[i]? = some x := ⟨_, List.getElem?_eq_getElem (by omega)⟩
          obtain ⟨y, hy⟩ : ∃ y, ys[i]? = some y := ⟨_, List.getElem?_eq_getElem (by omega)⟩
          have r1 := (k1 i fd hfd).trans hx
          have r2 := (k2 i fd hfd).trans hy
          have hxy : x.1 = y.1 := by
            have := congrArg (fun l => l[i]?) he
            simpa [hx, hy] using this
          obtain ⟨x1, x2⟩ := x
          obtain ⟨y1, y2⟩ := y
          obtain rfl : x1 = y1 := hxy
          have hpl : plainT P f fd.type = true := h.1 fd (by
            have := Array.mem_of_getElem? hfd
            simpa using this)
          exact chunk_at (trod_inj f fd.type _ _ _ _ _ _ _ hpl r1 r2) hb.1 hb.2
        · cases hb
      · rw [List.getElem?_eq_none (by omega), List.getElem?_eq_none (by omega)]
    · cases h
end Go.Proofs.YtlfbnfphocpgeaaGreatDoor.Kit
namespace Go.Proofs.YtlfbnfphocpgeaaGreatDoor.Utf
open Go.ChangeShapes Go.WideShapes Go.ChangeAt Go.RowKit Kit
theorem gKinds : Tryz.prog.globalNamed "tabularium/utf.kinds" = some 5 := by kernel_rfl
theorem tKinds : (Tryz.prog.globals[5]?).map (·.type) = some 227 := by kernel_rfl
theorem plainKinds : plainT Tryz.prog 5 227 = true := by kernel_rfl
theorem readsKinds (W : World) : DataW.trod (fun _ => ()) Tryz.prog W 0 (fun _ => true) false 5 227 kcells.toList = some (Rows.laid_tabularium_utf_kinds, []) := by kernel_rfl
end Go.Proofs.YtlfbnfphocpgeaaGreatDoor.Utf
namespace Go.Proofs.YtlfbnfphocpgeaaGreatDoor.Tre
open Go.RowKit Kit Txt
/-- What the world must hold: utf's table. -/
def Ok (w : World) : Prop := Utf.Laid w
theorem Ok.below {w w' : World} (h : Ok w) (k : Below w.heap.size w w') : Ok w' := Utf.Laid.below h k (Utf.Laid.lt h)
end Go.Proofs.YtlfbnfphocpgeaaGreatDoor.Tre
namespace Go.Proofs.YtlfbnfphocpgeaaGreatDoor.Tre
end Go.Proofs.YtlfbnfphocpgeaaGreatDoor.Tre
namespace Go.Proofs.YtlfbnfphocpgeaaGreatDoor.Jenc
open Go.RowKit Kit Txt
open Tre (Val Whole HoldU HoldV HoldP HoldF Fine Mild count sort)
open Emb (Turn Emb)
/-- The wide printer in block P, behind pieces. -/
def WSt (P B : Nat) (ps : List (List UInt8)) (w : World) : Prop := WAt P B (wf ps) w ∧ (wf ps).out.length ≤ 400000 * ps.length
theorem wwrite_any {P B : Nat} {s : WS} {p : List UInt8} {w : World} (hs : WAt P B s w) (ho : s.out.length ≤ 100000000000) (hpl : p.length ≤ 100000) (hd0 : -1 ≤ s.deep) (hd1 : s.deep ≤ 100000) (hw0 : 0 ≤ wdeep s p) (hw1 : wdeep s p ≤ 100000) :
    Calls Tryz.prog 229 #[.pointer (some ⟨P, 0, none⟩), .string (txt p)] w fun e w' => e = .returned (.tuple #[]) ∧ WAt P B (wstep s p) w' ∧ Turn B P w w' := by
  obtain ⟨o, dp, la⟩ := s
  by_cases l91 : la = [91]
  · by_cases q93 : p = [93]
    · exact wwrite_o1s1 hs ho hpl hd0 hd1 hw0 hw1 l91 q93
    by_cases q125 : p = [125]
    · exact wwrite_o1s2 hs ho hpl hd0 hd1 hw0 hw1 l91 q125
    exact wwrite_o1y hs ho hpl hd0 hd1 hw0 hw1 l91 q93 q125
  by_cases l123 : la = [123]
  · by_cases q93 : p = [93]
    · exact wwrite_o2s1 hs ho hpl hd0 hd1 hw0 hw1 l123 q93
    by_cases q125 : p = [125]
    · exact wwrite_o2s2 hs ho hpl hd0 hd1 hw0 hw1 l123 q125
    exact wwrite_o2y hs ho hpl hd0 hd1 hw0 hw1 l123 q93 q125
  by_cases l44 : la = [44]
  · by_cases q93 : p = [93]
    · exact wwrite_cs1 hs ho hpl hd0 hd1 hw0 hw1 l44 q93
    by_cases q125 : p = [125]
    · exact wwrite_cs2 hs ho hpl hd0 hd1 hw0 hw1 l44 q125
    exact wwrite_cy hs ho hpl hd0 hd1 hw0 hw1 l44 q93 q125
  by_cases l58 : la = [58]
  · by_cases q93 : p = [93]
    · exact wwrite_ks1 hs ho hpl hd0 hd1 hw0 hw1 l58 q93
    by_cases q125 : p = [125]
    · exact wwrite_ks2 hs ho hpl hd0 hd1 hw0 hw1 l58 q125
    exact wwrite_ky hs ho hpl hd0 hd1 hw0 hw1 l58 q93 q125
  by_cases q93 : p = [93]
  · exact wwrite_xs1 hs ho hpl hd0 hd1 hw0 hw1 l91 l123 l44 l58 q93
  by_cases q125 : p = [125]
  · exact wwrite_xs2 hs ho hpl hd0 hd1 hw0 hw1 l91 l123 l44 l58 q125
  exact wwrite_xy hs ho hpl hd0 hd1 hw0 hw1 l91 l123 l44 l58 q93 q125
set_option maxRecDepth 100000 in
theorem wide_printer (P B : Nat) : Printer 73 229 P B Gdw (WSt P B) where
  ahead := fun w => by kernel_rfl
  meth := fun w => by kernel_rfl
  call := fun m w => rfl
  step := fun ps m w hs hm hl hg => by
    obtain ⟨h1, h2⟩ := hs
    obtain ⟨b1, b2, b3, b4⟩ := wf_bounds hg hl
    have hgl := wgap_len hg hl
    refine (wwrite_any h1 (by omega) hm b3 b4 b1 b2).mono ?_
    rintro e w' ⟨he, hw, ht⟩
    refine ⟨he, ⟨by rw [wf_snoc]; exact hw, ?_⟩, ht⟩
    rw [wf_snoc]
    show ((wf ps).out ++ (wgap (wf ps) m ++ m)).length ≤ _
    rw [List.length_append, List.length_append, List.length_append, List.length_singleton]
    omega
  pre := fun a b h => h.pre
  keep := fun ps w w' h k => ⟨Emb.Emb.kept h.1 k, h.2⟩
  low := fun ps w h => ⟨(Emb.Emb.lt h.1).1, (Emb.Emb.lt h.1).2.1, (Emb.Emb.lt h.1).2.2⟩
set_option maxRecDepth 100000 in
set_option maxHeartbeats 2000000 in
theorem putvalue_any {T : TypeId} {K : FuncId} {P B : Nat} {Gd : List (List UInt8) → Prop} {St : List (List UInt8) → World → Prop} (hp : Printer T K P B Gd St) : ∀ v : Val, Whole v → (∃ d, Fine d v) → ∀ (w : World) (u : Value) (ps : List (List UInt8)), HoldU B w u v → St ps w → Env B w → ps.length + 5 * count v ≤ 100000 → Gd (ps ++ pcs v) →
    Calls Tryz.prog 51 #[.iface T (.pointer (some ⟨P, 0, none⟩)), u] w fun e w' => e = .returned (.tuple #[]) ∧ St (ps ++ pcs v) w' ∧ Turn B P w w' := by
  refine Tre.ind1 fun v ih hv hf w u ps hu hs he hn hg => ?_
  by_cases h4 : v.kind < 5
  · exact putvalue_leaf hp hv hf h4 hu hs he (by omega) hg
  have hl := (Tre.whole_iff.1 hv).1
  have h56 : v.kind = 5 ∨ v.kind = 6 := by
    have := hl.2.1
    omega
  have hwk := (Tre.whole_iff.1 hv).2
  have hfk := Mild.kids v hf
  have ih' : ∀ x ∈ v.kids, ∀ (w : World) (u : Value) (ps : List (List UInt8)), HoldU B w u x → St ps w → Env B w → ps.length + 5 * count x ≤ 100000 → Gd (ps ++ pcs x) → Calls Tryz.prog 51 #[.iface T (.pointer (some ⟨P, 0, none⟩)), u] w fun e w' => e = .returned (.tuple #[]) ∧ St (ps ++ pcs x) w' ∧ Turn B P w w' := fun x hx => ih x hx (hwk x hx) (hfk x hx)
  obtain ⟨lB, lw, lP⟩ := hp.low _ _ hs
  have hk := fun (wx : World) (kx : Below w.heap.size w wx) (obj : Bool) (hob : obj = decide (v.kind = 6)) => putkids_any hp hv hf h56 ih' (HoldU.step hu (kx.mono lw)) (hp.keep _ _ _ hs kx) (he.step (kx.mono lw)) hn hg hob
  generalize pcs v = pv at *
  obtain ⟨pk, ck, a, c, rfl⟩ : ∃ pk ck a c, u = .agg #[.int .i64 v.kind, .bool v.is, .bool v.num.neg, .string (txt v.num.dig), .int .i64 v.num.exp, .string (txt v.str), .slice pk v.keys.length ck, .slice a v.kids.length c] := by
    obtain ⟨cs, hcs, hP⟩ := hu
    exact Tre.holdV_form ⟨cs, hcs, HoldP.hold v hP⟩
  generalize v.keys.length = lk at *
  generalize v.kids.length = lv at *
  generalize v.is = vi at *
  generalize v.num = vn at *
  generalize v.str = vs at *
  generalize v.kind = k at *
  have bA : Below w.heap.size w (w.alloc (.cells #[.int .i64 k, .bool vi, .bool vn.neg, .string (txt vn.dig), .int .i64 vn.exp, .string (txt vs), .slice pk lk ck, .slice a lv c] 29)) := (Below.refl _ w).alloc (Nat.le_refl _) _
  have hA := World.alloc_heap_new w (.cells #[.int .i64 k, .bool vi, .bool vn.neg, .string (txt vn.dig), .int .i64 vn.exp, .string (txt vs), .slice pk lk ck, .slice a lv c] 29)
  obtain ⟨c0, c1, c2, c3, c4, c5, c6, c7⟩ := Tre.eight hA
  have HTA := Lib.hid (Turn.of_below (b := P) bA lw)
  have HK := Lib.hid (hk _ bA)
  have t91 : (⟨#[91]⟩ : ByteArray) = txt [opener false] := rfl
  have t93 : (⟨#[93]⟩ : ByteArray) = txt [Jdec.close false] := rfl
  have t123 : (⟨#[123]⟩ : ByteArray) = txt [opener true] := rfl
  have t125 : (⟨#[125]⟩ : ByteArray) = txt [Jdec.close true] := rfl
  clear hk bA hA hu hs he hg ih ih' hwk hfk hl hp hf hv h4
  rcases h56 with rfl | rfl
  · have HK2 := Lib.hid (HK.out false (by decide))
    clear HK
    go_enter Tryz.func51, Tryz.ntmps51
    go_wp2_with fail
    refine HK2.out.mono ?_
    rintro e w2 ⟨rfl, h2, t2⟩
    go_wp2_with fail
    go_end0
    exact ⟨rfl, h2, HTA.out.trans t2⟩
  · have HK2 := Lib.hid (HK.out true (by decide))
    clear HK
    go_enter Tryz.func51, Tryz.ntmps51
    go_wp2_with fail
    refine HK2.out.mono ?_
    rintro e w2 ⟨rfl, h2, t2⟩
    go_wp2_with fail
    go_end0
    exact ⟨rfl, h2, HTA.out.trans t2⟩
set_option maxRecDepth 100000 in
set_option maxHeartbeats 2000000 in
theorem put_any {T : TypeId} {K : FuncId} {P B : Nat} {Gd : List (List UInt8) → Prop} {St : List (List UInt8) → World → Prop} (hp : Printer T K P B Gd St) {v : Val} (hr : Tre.Right v) (hm : Mild v) {w : World} {u : Value} (hu : HoldU B w u v) (hs : St [] w) (he : Env B w) (hn : 5 * count v ≤ 100000) (hg : Gd (pcs v)) :
    Calls Tryz.prog 29 #[.iface T (.pointer (some ⟨P, 0, none⟩)), u] w fun e w' => e = .returned (.int .i64 0) ∧ St (pcs v) w' ∧ Turn B P w w' := by
  obtain ⟨lB, lw, lP⟩ := hp.low _ _ hs
  have hV : ∀ wx, Below w.heap.size w wx → HoldV wx u v := fun wx kx => by
    obtain ⟨cs, hcs, hP⟩ := HoldU.step hu (kx.mono lw)
    exact ⟨cs, hcs, HoldP.hold v hP⟩
  have hR := fun (wx : World) (kx : Below w.heap.size w wx) => Tre.tright_of hm (he.step (kx.mono lw)).utf (hV wx kx)
  have hk := fun (wx : World) (kx : Below w.heap.size w wx) => putvalue_any hp v hr.2 hm wx u [] (HoldU.step hu (kx.mono lw)) (hp.keep _ _ _ hs kx) (he.step (kx.mono lw)) (by simpa using hn) (by simpa using hg)
  simp only [List.nil_append] at hk
  have HRR := Lib.hid hr
  obtain ⟨pk, ck, a, c, rfl⟩ := Tre.holdV_form (hV w (Below.refl _ _))
  generalize pcs v = pv at *
  generalize Tre.Right v = rv at *
  generalize v.keys.length = lk at *
  generalize v.kids.length = lv at *
  generalize v.is = vi at *
  generalize v.num = vn at *
  generalize v.str = vs at *
  generalize v.kind = k at *
  have bA : Below w.heap.size w (w.alloc (.cells #[.int .i64 k, .bool vi, .bool vn.neg, .string (txt vn.dig), .int .i64 vn.exp, .string (txt vs), .slice pk lk ck, .slice a lv c] 29)) := (Below.refl _ w).alloc (Nat.le_refl _) _
  have hA := World.alloc_heap_new w (.cells #[.int .i64 k, .bool vi, .bool vn.neg, .string (txt vn.dig), .int .i64 vn.exp, .string (txt vs), .slice pk lk ck, .slice a lv c] 29)
  obtain ⟨c0, c1, c2, c3, c4, c5, c6, c7⟩ := Tre.eight hA
  have HR := Lib.hid (hR _ bA)
  have HK := Lib.hid hk
  have HA := Lib.hid hA
  have HBA := Lib.hid bA
  clear hk bA hA hR hV hu hs he hg hp hm hr
  go_enter Tryz.func29, Tryz.ntmps29
  go_wp2_with fail
  refine HR.out.mono ?_
  rintro e w1 ⟨⟨r, rfl, hr⟩, k1⟩
  obtain rfl : r = true := hr.2 HRR.out
  have b1 := HBA.out.trans (k1.mono HBA.out.size)
  have hA1 := (k1.block _ (lt_of_heap HA.out)).trans HA.out
  clear c0 c1 c2 c3 c4 c5 c6 c7 hr
  obtain ⟨c0, c1, c2, c3, c4, c5, c6, c7⟩ := Tre.eight hA1
  have HK1 := Lib.hid (HK.out _ b1)
  have HT1 := Lib.hid (Turn.of_below (b := P) b1 lw)
  clear b1 k1 hA1
  go_wp2_with fail
  refine HK1.out.mono ?_
  rintro e w2 ⟨rfl, h2, t2⟩
  go_wp2_with fail
  go_ret
  exact ⟨rfl, h2, HT1.out.trans t2⟩
theorem prt_ne (wide : Bool) (d : Nat) {v : Val} (h : Whole v) : prt wide d v ≠ [] := by
  obtain ⟨k, i, n, s, ks, vs⟩ := v
  rw [Whole] at h
  rw [prt]
  split
  · simp
  split
  · cases i <;> simp
  split
  · exact (num_bytes h.1.2.2.2.2.2.2.2.1).1
  split
  · simp [Quo.print]
  · simp
set_option maxRecDepth 100000 in
set_option maxHeartbeats 2000000 in
theorem print_any {v : Val} (hr : Tre.Right v) (hm : Mild v) (hn : 5 * count v ≤ 100000) {w : World} {u : Value} (hu : HoldV w u v) (hl : Utf.Laid w) (hpw : Num.Pow w) :
    Calls Tryz.prog 16 #[u] w fun e w' => e = .returned (.tuple #[.string (txt (prt false 0 v)), .int .i64 0]) ∧ Below w.heap.size w w' := by

  have hne := prt_ne false 0 hr.2
  have hout : (pcs v).flatten = prt false 0 v := narrow_val v 0
  obtain ⟨pk, ck, a, c, rfl⟩ := Tre.holdV_form hu
  generalize v.keys.length = lk at *
  generalize v.kids.length = lv at *
  generalize v.is = vi at *
  generalize v.num = vn at *
  generalize v.str = vs at *
  generalize v.kind = k at *
  obtain ⟨w1, hw1⟩ : ∃ w1, w.alloc (.cells #[.int .i64 k, .bool vi, .bool vn.neg, .string (txt vn.dig), .int .i64 vn.exp, .string (txt vs), .slice pk lk ck, .slice a lv c] 29) = w1 := ⟨_, rfl⟩
  have hA := World.alloc_heap_new w (.cells #[.int .i64 k, .bool vi, .bool vn.neg, .string (txt vn.dig), .int .i64 vn.exp, .string (txt vs), .slice pk lk ck, .slice a lv c] 29)
  have b1 : Below w.heap.size w w1 := by rw [← hw1]; exact (Below.refl _ w).alloc (Nat.le_refl _) _
  have hz1 : w1.heap.size = w.heap.size + 1 := by rw [← hw1]; simp
  rw [hw1] at hA
  obtain ⟨w2, hw2⟩ : ∃ w2, w1.alloc (.cells #[.pointer none, .slice none 0 0] 64) = w2 := ⟨_, rfl⟩
  have b2 : Below w1.heap.size w1 w2 := by rw [← hw2]; exact (Below.refl _ w1).alloc (Nat.le_refl _) _
  have hE : Emb 64 w1.heap.size w1.heap.size [] [] w2 := by
    rw [← hw2]
    exact Emb.Emb.new w1 []
  have hA2 := (b2.block _ (lt_of_heap hA)).trans hA
  have b12 := b1.trans (b2.mono b1.size)
  have henv : Env w1.heap.size w2 := (Env.of (hl.below b1 hl.lt) (hpw.below b1)).step b2
  have hu2 : HoldU w1.heap.size w2 (.agg #[.int .i64 k, .bool vi, .bool vn.neg, .string (txt vn.dig), .int .i64 vn.exp, .string (txt vs), .slice pk lk ck, .slice a lv c]) v := HoldU.step (Tre.HoldU.of (hu.below b1)) b2
  have hput := put_any (narrow_printer w1.heap.size w1.heap.size) hr hm hu2 ⟨hE, by simp⟩ henv hn trivial
  have hw12 : w.alloc (.cells #[.int .i64 k, .bool vi, .bool vn.neg, .string (txt vn.dig), .int .i64 vn.exp, .string (txt vs), .slice pk lk ck, .slice a lv c] 29) = w1 ∧ w1.alloc (.cells #[.pointer none, .slice none 0 0] 64) = w2 := ⟨hw1, hw2⟩
  have HW := Lib.hid hw12
  have HPUT := Lib.hid hput
  have HA2 := Lib.hid hA2
  have HB := Lib.hid b12
  have HB1 := Lib.hid b1
  have HNE := Lib.hid hne
  have HOUT := Lib.hid hout
  clear hw1 hw2 hw12 hput hA hA2 b1 b2 b12 hE henv hu2 hu hl hpw hr hm hne hout
  have hmk : ∀ (x : Value) (wx : World), (Instr.makeInterface 66 x).run Tryz.prog wx = .ok (.iface 66 x) wx := fun x wx => run_makeInterface wx _ x (by kernel_rfl)
  go_enter Tryz.func16, Tryz.ntmps16
  go_upto_region 2 with fail
  rw [HW.out.1, HW.out.2]
  have e1 : w.heap.size + 1 = w1.heap.size := hz1.symm
  rw [e1]
  clear e1 hz1
  obtain ⟨c0, c1, c2, c3, c4, c5, c6, c7⟩ := Tre.eight HA2.out
  go_wp2_with fail
  refine HPUT.out.mono ?_
  rintro e w3 ⟨rfl, h3, t3⟩
  have h3e := h3.1
  have h3l := h3.1.lt
  have HX := Lib.hid (Turn.trans (.of_below (w := w1) (w' := w2) (by rw [← HW.out.2]; exact (Below.refl _ w1).alloc (Nat.le_refl _) _) (Nat.le_refl _)) t3)
  clear h3 t3
  have HB3 := Lib.hid (HB1.out.trans ((HX.out.1).mono HB1.out.size))
  go_wp2_with fail
  refine (Emb.string_any h3e (by rw [HOUT.out]; exact HNE.out)).mono ?_
  rintro e w4 ⟨rfl, k4⟩
  have HB4 := Lib.hid (HB3.out.trans (k4.mono HB1.out.size))
  clear k4
  go_wp2_with fail
  go_ret2
  exact ⟨by rw [HOUT.out]; rfl, HB4.out⟩
set_option maxRecDepth 100000 in
set_option maxHeartbeats 2000000 in
theorem wide_any {v : Val} (hr : Tre.Right v) (hm : Mild v) (hn : 5 * count v ≤ 100000) {w : World} {u : Value} (hu : HoldV w u v) (hl : Utf.Laid w) (hpw : Num.Pow w) :
    Calls Tryz.prog 21 #[u] w fun e w' => e = .returned (.tuple #[.string (txt (prt true 0 v)), .int .i64 0]) ∧ Below w.heap.size w w' ∧ (prt true 0 v).length ≤ 40000000000 := by
  have hpl := pcs_len v
  have hne := prt_ne true 0 hr.2
  have hout : (wf (pcs v)).out = prt true 0 v := by
    obtain ⟨l, -, e⟩ := wide_val v hr.2 ⟨[], 0, []⟩ 0 (by simp [within, opens])
    unfold wf
    rw [e]
    simp [ahead, opens]
  obtain ⟨pk, ck, a, c, rfl⟩ := Tre.holdV_form hu
  generalize v.keys.length = lk at *
  generalize v.kids.length = lv at *
  generalize v.is = vi at *
  generalize v.num = vn at *
  generalize v.str = vs at *
  generalize v.kind = k at *
  obtain ⟨w1, hw1⟩ : ∃ w1, w.alloc (.cells #[.int .i64 k, .bool vi, .bool vn.neg, .string (txt vn.dig), .int .i64 vn.exp, .string (txt vs), .slice pk lk ck, .slice a lv c] 29) = w1 := ⟨_, rfl⟩
  have hA := World.alloc_heap_new w (.cells #[.int .i64 k, .bool vi, .bool vn.neg, .string (txt vn.dig), .int .i64 vn.exp, .string (txt vs), .slice pk lk ck, .slice a lv c] 29)
  have b1 : Below w.heap.size w w1 := by rw [← hw1]; exact (Below.refl _ w).alloc (Nat.le_refl _) _
  have hz1 : w1.heap.size = w.heap.size + 1 := by rw [← hw1]; simp
  rw [hw1] at hA
  obtain ⟨w2, hw2⟩ : ∃ w2, w1.alloc (.cells #[.pointer none, .slice none 0 0, .int .i64 0, .string ⟨#[]⟩] 72) = w2 := ⟨_, rfl⟩
  have b2 : Below w1.heap.size w1 w2 := by rw [← hw2]; exact (Below.refl _ w1).alloc (Nat.le_refl _) _
  have hE : Emb 72 w1.heap.size w1.heap.size [] [.int .i64 0, .string (txt [])] w2 := by
    rw [← hw2]
    exact Emb.Emb.new w1 [.int .i64 0, .string (txt [])]
  have hA2 := (b2.block _ (lt_of_heap hA)).trans hA
  have b12 := b1.trans (b2.mono b1.size)
  have henv : Env w1.heap.size w2 := (Env.of (hl.below b1 hl.lt) (hpw.below b1)).step b2
  have hu2 : HoldU w1.heap.size w2 (.agg #[.int .i64 k, .bool vi, .bool vn.neg, .string (txt vn.dig), .int .i64 vn.exp, .string (txt vs), .slice pk lk ck, .slice a lv c]) v := HoldU.step (Tre.HoldU.of (hu.below b1)) b2
  have hput := put_any (wide_printer w1.heap.size w1.heap.size) hr hm hu2 ⟨hE, by simp [wf, wfold]⟩ henv hn (bal_pcs v hr.2).2
  have hw12 : w.alloc (.cells #[.int .i64 k, .bool vi, .bool vn.neg, .string (txt vn.dig), .int .i64 vn.exp, .string (txt vs), .slice pk lk ck, .slice a lv c] 29) = w1 ∧ w1.alloc (.cells #[.pointer none, .slice none 0 0, .int .i64 0, .string ⟨#[]⟩] 72) = w2 := ⟨hw1, hw2⟩
  have HW := Lib.hid hw12
  have HPUT := Lib.hid hput
  have HA2 := Lib.hid hA2
  have HB := Lib.hid b12
  have HB1 := Lib.hid b1
  have HNE := Lib.hid hne
  have HOUT := Lib.hid hout
  clear hw1 hw2 hw12 hput hA hA2 b1 b2 b12 hE henv hu2 hu hl hpw hr hm hne hout
  have hmk : ∀ (x : Value) (wx : World), (Instr.makeInterface 73 x).run Tryz.prog wx = .ok (.iface 73 x) wx := fun x wx => run_makeInterface wx _ x (by kernel_rfl)
  go_enter Tryz.func21, Tryz.ntmps21
  go_upto_region 2 with fail
  rw [HW.out.1, HW.out.2]
  have e1 : w.heap.size + 1 = w1.heap.size := hz1.symm
  rw [e1]
  clear e1 hz1
  obtain ⟨c0, c1, c2, c3, c4, c5, c6, c7⟩ := Tre.eight HA2.out
  go_wp2_with fail
  refine HPUT.out.mono ?_
  rintro e w3 ⟨rfl, h3, t3⟩
  have h3e := h3.1
  have h3l := Emb.Emb.lt h3.1
  have HX2 := Lib.hid h3.2
  have HX := Lib.hid (Turn.trans (.of_below (w := w1) (w' := w2) (by rw [← HW.out.2]; exact (Below.refl _ w1).alloc (Nat.le_refl _) _) (Nat.le_refl _)) t3)
  clear h3 t3
  have HB3 := Lib.hid (HB1.out.trans ((HX.out.1).mono HB1.out.size))
  go_wp2_with fail
  refine (Emb.string_any h3e (by rw [HOUT.out]; exact HNE.out)).mono ?_
  rintro e w4 ⟨rfl, k4⟩
  have HB4 := Lib.hid (HB3.out.trans (k4.mono HB1.out.size))
  clear k4
  go_wp2_with fail
  go_ret2
  exact ⟨by rw [HOUT.out]; rfl, HB4.out, by rw [← HOUT.out]; have := HX2.out; omega⟩
set_option maxRecDepth 100000 in
set_option maxHeartbeats 2000000 in
theorem canon_any {v : Val} (hr : Tre.Right v) (hm : Mild v) (hn : 5 * count v ≤ 100000) {w : World} {u : Value} (hu : HoldV w u v) (hl : Utf.Laid w) (hpw : Num.Pow w) :
    Calls Tryz.prog 17 #[u] w fun e w' => e = .returned (.tuple #[.string (txt (prt false 0 (sort v))), .int .i64 0]) ∧ Below w.heap.size w w' := by
  have hR := fun (wx : World) (kx : Below w.heap.size w wx) => Tre.tright_of hm (hl.below kx hl.lt) (hu.below kx)
  have hS := fun (wx : World) (kx : Below w.heap.size w wx) => Tre.tsort_of (hl.below kx hl.lt) hm (by omega) (hu.below kx)
  have hms : Mild (sort v) := by
    obtain ⟨d, hd⟩ := hm
    exact ⟨d, Tre.sort_fine v d hr.2 hd⟩
  have hP := fun (wx : World) (y : Value) (kx : Below w.heap.size w wx) (hy : HoldV wx y (sort v)) => print_any (Tre.sort_right hr) hms (by rw [Tre.sort_count v hr.2]; exact hn) hy (hl.below kx hl.lt) (hpw.below kx)
  have HRR := Lib.hid hr
  obtain ⟨pk, ck, a, c, rfl⟩ := Tre.holdV_form hu
  generalize prt false 0 (sort v) = out at *
  generalize sort v = sv at *
  generalize Tre.Right v = rv at *
  generalize v.keys.length = lk at *
  generalize v.kids.length = lv at *
  generalize v.is = vi at *
  generalize v.num = vn at *
  generalize v.str = vs at *
  generalize v.kind = k at *
  have bA : Below w.heap.size w (w.alloc (.cells #[.int .i64 k, .bool vi, .bool vn.neg, .string (txt vn.dig), .int .i64 vn.exp, .string (txt vs), .slice pk lk ck, .slice a lv c] 29)) := (Below.refl _ w).alloc (Nat.le_refl _) _
  have hA := World.alloc_heap_new w (.cells #[.int .i64 k, .bool vi, .bool vn.neg, .string (txt vn.dig), .int .i64 vn.exp, .string (txt vs), .slice pk lk ck, .slice a lv c] 29)
  obtain ⟨c0, c1, c2, c3, c4, c5, c6, c7⟩ := Tre.eight hA
  have HR := Lib.hid (hR _ bA)
  have HS := Lib.hid hS
  have HP := Lib.hid hP
  have HA := Lib.hid hA
  have HBA := Lib.hid bA
  clear hP hS bA hA hR hu hl hpw hm hms hr
  go_enter Tryz.func17, Tryz.ntmps17
  go_wp2_with fail
  refine HR.out.mono ?_
  rintro e w1 ⟨⟨r, rfl, hr⟩, k1⟩
  obtain rfl : r = true := hr.2 HRR.out
  have b1 := HBA.out.trans (k1.mono HBA.out.size)
  have hA1 := (k1.block _ (lt_of_heap HA.out)).trans HA.out
  clear c0 c1 c2 c3 c4 c5 c6 c7 hr
  obtain ⟨c0, c1, c2, c3, c4, c5, c6, c7⟩ := Tre.eight hA1
  have HS1 := Lib.hid (HS.out _ b1)
  have HB1 := Lib.hid b1
  clear b1 k1 hA1
  go_wp2_with fail
  refine HS1.out.mono ?_
  rintro e w2 ⟨⟨y, rfl, hy, -⟩, k2⟩
  have b2 := HB1.out.trans (k2.mono HB1.out.size)
  have HY := Lib.hid (HP.out _ y b2 (hy HRR.out))
  have HB2 := Lib.hid b2
  clear hy b2 k2
  go_wp2_with fail
  refine HY.out.mono ?_
  rintro e w3 ⟨rfl, k3⟩
  have HB3 := Lib.hid (HB2.out.trans (k3.mono HB2.out.size))
  clear k3
  go_wp2_with fail
  go_ret2
  exact ⟨rfl, HB3.out⟩
end Go.Proofs.YtlfbnfphocpgeaaGreatDoor.Jenc
namespace Go.Proofs.YtlfbnfphocpgeaaGreatDoor.Tre
open Go.RowKit Kit Txt
open Num (Dec zero)
def vList : Val := ⟨5, false, zero, [], [], []⟩
theorem bad_one {c : Nat} (hc : c < 128) : Utf.bad [UInt8.ofNat c] = none := by
  have h := Utf.scan_one (c := c) (by unfold Utf.Scalar; omega)
  have e : Utf.enc c = [UInt8.ofNat c] := by
    unfold Utf.enc Utf.encN
    rw [if_pos hc]
    rfl
  rw [e] at h
  unfold Utf.bad
  rw [h]
theorem bad_none : Utf.bad [] = none := by unfold Utf.bad; rw [Utf.scan_nil]
theorem right_zero : Num.Right zero := by decide
end Go.Proofs.YtlfbnfphocpgeaaGreatDoor.Tre
namespace Go.Proofs.YtlfbnfphocpgeaaGreatDoor.Jenc
open Go.RowKit Kit Txt
open Tre (Val Whole HoldV Hold Holds At8 Fine Fines Mild count sort)
def vN : Val := ⟨3, false, ⟨false, [49], 0⟩, [], [], []⟩
def vEx : Val := ⟨6, false, Num.zero, [], [[98], [97]], [vN, Tre.vList]⟩
def exP : List UInt8 := [123, 34, 98, 34, 58, 49, 44, 34, 97, 34, 58, 91, 93, 125]
def exC : List UInt8 := [123, 34, 97, 34, 58, 91, 93, 44, 34, 98, 34, 58, 49, 125]
theorem ex_print : prt false 0 vEx = exP := by decide +kernel
theorem ex_canon : prt false 0 (sort vEx) = exC := by decide +kernel
theorem mild_ex : Mild vEx := by
  refine ⟨1, ?_⟩
  unfold vEx vN Tre.vList
  rw [Fine]
  refine ⟨by decide, by simp, by simp [Num.zero], by simp, ?_⟩
  rw [Fines, Fines, Fines]
  refine ⟨?_, ?_, trivial⟩
  · rw [Fine]
    exact ⟨by decide, by simp, by simp, by simp, by rw [Fines]; trivial⟩
  · rw [Fine]
    exact ⟨by decide, by simp, by simp [Num.zero], by simp, by rw [Fines]; trivial⟩
theorem whole_flat {v : Val} (h : Tre.Own v) (hk : v.kids = []) : Whole v := by
  rw [Tre.whole_iff]
  exact ⟨h, by rw [hk]; intro x hx; exact absurd hx List.not_mem_nil⟩
theorem right_ex : Tre.Right vEx := by
  refine ⟨by decide, ?_⟩
  rw [Tre.whole_iff]
  refine ⟨?_, ?_⟩
  · unfold Tre.Own
    refine ⟨by decide, by decide, fun _ => rfl, fun _ => rfl, fun _ => rfl, fun h => absurd h (by decide), fun h => absurd rfl h, Tre.right_zero, Tre.bad_none, fun _ => rfl, fun k hk => ?_, by decide⟩
    rcases List.mem_cons.1 hk with rfl | hk
    · exact Tre.bad_one (c := 98) (by decide)
    · rw [List.mem_singleton.1 hk]
      exact Tre.bad_one (c := 97) (by decide)
  · intro x hx
    rcases List.mem_cons.1 hx with e | hx
    · rw [e]
      refine whole_flat ?_ rfl
      unfold Tre.Own
      exact ⟨by decide, by decide, fun _ => rfl, fun h => absurd rfl h, fun _ => rfl, fun _ => rfl, fun _ => rfl, by decide, Tre.bad_none, fun h => absurd h (by decide), fun k hk => absurd hk List.not_mem_nil, List.nodup_nil⟩
    · rw [List.mem_singleton.1 hx]
      refine whole_flat ?_ rfl
      unfold Tre.Own
      exact ⟨by decide, by decide, fun _ => rfl, fun _ => rfl, fun _ => rfl, fun h => absurd h (by decide), fun _ => rfl, Tre.right_zero, Tre.bad_none, fun h => absurd h (by decide), fun k hk => absurd hk List.not_mem_nil, List.nodup_nil⟩
theorem hold_ex {W : World} {g1 g2 : Nat} {f1 f2 : Nat × Nat} (h1 : W.heap[g1]? = some (.cells #[.string ⟨#[98]⟩, .string ⟨#[97]⟩] 9 f1)) (h2 : W.heap[g2]? = some (.cells #[.int .i64 3, .bool false, .bool false, .string ⟨#[49]⟩, .int .i64 0, .string ⟨#[]⟩, .slice none 0 0, .slice none 0 0, .int .i64 5, .bool false, .bool false, .string ⟨#[]⟩, .int .i64 0, .string ⟨#[]⟩, .slice none 0 0, .slice none 0 0] 29 f2)) :
    HoldV W (.agg #[.int .i64 6, .bool false, .bool false, .string ⟨#[]⟩, .int .i64 0, .string ⟨#[]⟩, .slice (some ⟨g1, 0, none⟩) 2 2, .slice (some ⟨g2, 0, none⟩) 2 2]) vEx := by
  refine ⟨_, rfl, ?_⟩
  unfold vEx
  rw [Hold]
  refine ⟨_, some ⟨g2, 0, none⟩, 2, rfl, ⟨some ⟨g1, 0, none⟩, 2, rfl, Nat.le_refl _, by omega, .inr ⟨g1, 0, rfl, lt_of_heap h1, fun i l hi => ?_⟩⟩, Nat.le_refl _, by omega, .inr ⟨g2, 0, rfl, lt_of_heap h2, ?_⟩⟩
  · match i with
    | 0 =>
      simp at hi
      subst hi
      exact cell_of h1 0
    | 1 =>
      simp at hi
      subst hi
      exact cell_of h1 1
    | i + 2 => simp at hi
  · rw [Holds, Holds, Holds]
    refine ⟨⟨[.int .i64 3, .bool false, .bool false, .string ⟨#[49]⟩, .int .i64 0, .string ⟨#[]⟩, .slice none 0 0, .slice none 0 0], ⟨rfl, fun j hj => ?_⟩, ?_⟩, ⟨[.int .i64 5, .bool false, .bool false, .string ⟨#[]⟩, .int .i64 0, .string ⟨#[]⟩, .slice none 0 0, .slice none 0 0], ⟨rfl, fun j hj => ?_⟩, ?_⟩, trivial⟩
    · rw [cell_of h2]
      match j, hj with
      | 0, _ | 1, _ | 2, _ | 3, _ | 4, _ | 5, _ | 6, _ | 7, _ => rfl
    · unfold vN
      rw [Hold]
      exact ⟨_, none, 0, rfl, ⟨none, 0, rfl, Nat.le_refl _, by omega, .inl rfl⟩, Nat.le_refl _, by omega, .inl rfl⟩
    · rw [cell_of h2]
      match j, hj with
      | 0, _ | 1, _ | 2, _ | 3, _ | 4, _ | 5, _ | 6, _ | 7, _ => rfl
    · unfold Tre.vList
      rw [Hold]
      exact ⟨_, none, 0, rfl, ⟨none, 0, rfl, Nat.le_refl _, by omega, .inl rfl⟩, Nat.le_refl _, by omega, .inl rfl⟩
set_option maxRecDepth 100000 in
set_option maxHeartbeats 4000000 in
theorem wakes_any {w : World} (hl : Utf.Laid w) (hp : Num.Pow w) : Calls Tryz.prog 12 #[] w fun e w' => e = .returned (.bool true) ∧ Below w.heap.size w w' := by
  obtain ⟨W, hW⟩ : ∃ W, (((w.alloc (.cells #[.string ⟨#[98]⟩, .string ⟨#[97]⟩] 9)).alloc (.cells #[.int .i64 3, .bool false, .bool false, .string ⟨#[49]⟩, .int .i64 0, .string ⟨#[]⟩, .slice none 0 0, .slice none 0 0, .int .i64 5, .bool false, .bool false, .string ⟨#[]⟩, .int .i64 0, .string ⟨#[]⟩, .slice none 0 0, .slice none 0 0] 29)).alloc (.cells #[.int .i64 6, .bool false, .bool false, .string ⟨#[]⟩, .int .i64 0, .string ⟨#[]⟩, .slice (some ⟨w.heap.size, 0, none⟩) 2 2, .slice (some ⟨w.heap.size + 1, 0, none⟩) 2 2] 29)) = W := ⟨_, rfl⟩
  have bW : Below w.heap.size w W := by rw [← hW]; exact (((Below.refl _ w).alloc (by simp; try omega) _).alloc (by simp; try omega) _).alloc (by simp; try omega) _
  have q1 : W.heap[w.heap.size]? = some (.cells #[.string ⟨#[98]⟩, .string ⟨#[97]⟩] 9 (0, 0)) := by
    rw [← hW]
    exact new_of (new_of (World.alloc_heap_new w _) _) _
  have q2 : W.heap[w.heap.size + 1]? = some (.cells #[.int .i64 3, .bool false, .bool false, .string ⟨#[49]⟩, .int .i64 0, .string ⟨#[]⟩, .slice none 0 0, .slice none 0 0, .int .i64 5, .bool false, .bool false, .string ⟨#[]⟩, .int .i64 0, .string ⟨#[]⟩, .slice none 0 0, .slice none 0 0] 29 (0, 0)) := by
    rw [← hW]
    have := World.alloc_heap_new (w.alloc (.cells #[.string ⟨#[98]⟩, .string ⟨#[97]⟩] 9)) (.cells #[.int .i64 3, .bool false, .bool false, .string ⟨#[49]⟩, .int .i64 0, .string ⟨#[]⟩, .slice none 0 0, .slice none 0 0, .int .i64 5, .bool false, .bool false, .string ⟨#[]⟩, .int .i64 0, .string ⟨#[]⟩, .slice none 0 0, .slice none 0 0] 29)
    simp only [World.size_alloc] at this
    exact new_of this _
  have q3 : W.heap[w.heap.size + 1 + 1]? = some (.cells #[.int .i64 6, .bool false, .bool false, .string ⟨#[]⟩, .int .i64 0, .string ⟨#[]⟩, .slice (some ⟨w.heap.size, 0, none⟩) 2 2, .slice (some ⟨w.heap.size + 1, 0, none⟩) 2 2] 29 (0, 0)) := by
    rw [← hW]
    have := World.alloc_heap_new ((w.alloc (.cells #[.string ⟨#[98]⟩, .string ⟨#[97]⟩] 9)).alloc (.cells #[.int .i64 3, .bool false, .bool false, .string ⟨#[49]⟩, .int .i64 0, .string ⟨#[]⟩, .slice none 0 0, .slice none 0 0, .int .i64 5, .bool false, .bool false, .string ⟨#[]⟩, .int .i64 0, .string ⟨#[]⟩, .slice none 0 0, .slice none 0 0] 29)) (.cells #[.int .i64 6, .bool false, .bool false, .string ⟨#[]⟩, .int .i64 0, .string ⟨#[]⟩, .slice (some ⟨w.heap.size, 0, none⟩) 2 2, .slice (some ⟨w.heap.size + 1, 0, none⟩) 2 2] 29)
    simp only [World.size_alloc] at this
    exact this
  have hc : 5 * count vEx ≤ 100000 := by decide
  have hE := hold_ex q1 q2
  have H1 := print_any right_ex mild_ex hc hE (hl.below bW hl.lt) (hp.below bW)
  have H2 := fun (wx : World) (kx : Below W.heap.size W wx) => canon_any right_ex mild_ex hc (hE.below kx) (hl.below (bW.trans (kx.mono bW.size)) hl.lt) (hp.below (bW.trans (kx.mono bW.size)))
  rw [ex_print] at H1
  simp only [ex_canon] at H2
  have tP : (⟨#[123, 34, 98, 34, 58, 49, 44, 34, 97, 34, 58, 91, 93, 125]⟩ : ByteArray) = txt exP := rfl
  have tC : (⟨#[123, 34, 97, 34, 58, 91, 93, 44, 34, 98, 34, 58, 49, 125]⟩ : ByteArray) = txt exC := rfl
  generalize exP = lP at *
  generalize exC = lC at *
  have HW := Lib.hid hW
  have H1 := Lib.hid H1
  have H2 := Lib.hid H2
  have Q3 := Lib.hid q3
  have HB := Lib.hid bW
  clear hW q1 q2 hE hl hp hc bW q3
  go_enter Tryz.func12, Tryz.ntmps12
  go_wp2_with fail
  rw [HW.out]
  refine H1.out.mono ?_
  rintro e w1 ⟨rfl, k1⟩
  obtain ⟨c0, c1, c2, c3, c4, c5, c6, c7⟩ := Tre.eight ((k1.block _ (lt_of_heap Q3.out)).trans Q3.out)
  have HC := Lib.hid (H2.out _ k1)
  have HB1 := Lib.hid (HB.out.trans (k1.mono HB.out.size))
  clear k1
  go_wp2_with fail
  refine HC.out.mono ?_
  rintro e w2 ⟨rfl, k2⟩
  have HB2 := Lib.hid (HB1.out.trans (k2.mono HB1.out.size))
  clear k2
  go_wp2_with fail
  go_ret
  exact ⟨rfl, HB2.out⟩
end Go.Proofs.YtlfbnfphocpgeaaGreatDoor.Jenc
namespace Go.Proofs.YtlfbnfphocpgeaaGreatDoor.Jenc
open Go.RowKit Kit Txt
open Tre (Val Whole HoldV HoldU Hold Holds At8 Fine Mild Tame count sort Spots)
theorem nl_take {l : List UInt8} {i : Nat} (h : i < l.length) : nl (l.take (i + 1)) = nl (l.take i) + (if Utf.nb l i = 10 then 1 else 0) := by
  rw [List.take_succ_eq_append_getElem h, nl_app, nb_get h]
  congr 1
  unfold nl
  rw [List.countP_singleton]
  have e : (l[i] = 10 ↔ l[i].toNat = 10) := ⟨fun e => by rw [e]; rfl, fun e => UInt8.toNat_inj.1 e⟩
  simp only [decide_eq_true_eq, e]
theorem nl_le (l : List UInt8) : nl l ≤ l.length := List.countP_le_length
theorem flat9 {α : Type} : ∀ {cs : List (List α)} {i j : Nat} {c : List α}, (∀ x ∈ cs, x.length = 9) → cs[i]? = some c → j < 9 → cs.flatten[i * 9 + j]? = c[j]?
  | [], _, _, _, _, h, _ => by simp at h
  | x :: r, 0, j, c, hl, h, hj => by
    simp at h
    subst h
    rw [List.flatten_cons, List.getElem?_append_left (by rw [hl x (by simp)]; omega)]
    simp
  | x :: r, i + 1, j, c, hl, h, hj => by
    rw [List.flatten_cons, List.getElem?_append_right (by rw [hl x (by simp)]; omega), hl x (by simp), show (i + 1) * 9 + j - 9 = i * 9 + j by omega]
    exact flat9 (fun y hy => hl y (by simp [hy])) (by simpa using h) hj
/-- What the first loop has counted. -/
def cntN (l : List (Nat × Val)) (j : Nat) : Nat := ((l.take j).map fun x => perNode x.2).sum
theorem cnt_succ {l : List (Nat × Val)} {j : Nat} (h : j < l.length) : cntN l (j + 1) = cntN l j + perNode (l[j]).2 := by
  unfold cntN
  rw [List.take_succ_eq_append_getElem h, List.map_append, List.sum_append]
  simp
theorem cnt_le (l : List (Nat × Val)) (j : Nat) : cntN l j ≤ (l.map fun x => perNode x.2).sum := by
  unfold cntN
  rw [List.map_take]
  conv => rhs; rw [← List.take_append_drop j (l.map fun x => perNode x.2), List.sum_append]
  omega
set_option maxRecDepth 100000 in
set_option maxHeartbeats 8000000 in
theorem lines_law {w : World} {v : Val} {u : Value} (hl : Utf.Laid w) (hp : Num.Pow w) (ht : Tame v) (h : HoldV w u v) : Calls Tryz.prog 7 #[u] w fun e w' => e = .returned (.bool true) ∧ Below w.heap.size w w' := by
  obtain ⟨pk, ck, a, c, rfl⟩ := Tre.holdV_form h
  have hA := World.alloc_heap_new w (.cells #[.int .i64 v.kind, .bool v.is, .bool v.num.neg, .string (txt v.num.dig), .int .i64 v.num.exp, .string (txt v.str), .slice pk v.keys.length ck, .slice a v.kids.length c] 29)
  have bA : Below w.heap.size w (w.alloc (.cells #[.int .i64 v.kind, .bool v.is, .bool v.num.neg, .string (txt v.num.dig), .int .i64 v.num.exp, .string (txt v.str), .slice pk v.keys.length ck, .slice a v.kids.length c] 29)) := (Below.refl _ w).alloc (Nat.le_refl _) _
  have hw := wakes_any (hl.below bA hl.lt) (hp.below bA)
  have hgr := fun wx (hb : Below w.heap.size w wx) => Tre.rgreat_any (h.below hb)
  have hR := fun wx (hb : Below w.heap.size w wx) (hm : Mild v) => Tre.rright_any hm (h.below hb)
  have hWk := fun wx (hb : Below w.heap.size w wx) (hc : count v < 1000000) => Tre.rwalk_all v wx _ 0 wx.heap.size (by omega) (Nat.le_refl _) (Tre.HoldU.of (h.below hb))
  have hWd := fun wx (hb : Below w.heap.size w wx) (hr : Tre.Right v) (hm : Mild v) (hc : 5 * count v ≤ 100000) => wide_any hr hm hc (h.below hb) (hl.below hb hl.lt) (hp.below hb)
  have hnl := fun (hr : Tre.Right v) => nl_prt v 0 hr.2
  have hsum := lines_walk v 0
  have hlc := lines_count v
  have hwl := Tre.walk_len v 0
  have hpos : 0 < (Tre.walk 0 v).length := by
    obtain ⟨k1, b1, n1, s1, ks1, vs1⟩ := v
    rw [Tre.walk]
    simp
  have hsp9 := fun (B : Nat) (W : World) (css : List (List Value)) (hs : Spots B W css (Tre.walk 0 v)) => hs
  generalize prt true 0 v = out at *
  generalize lines v = L at *
  generalize Tre.walk 0 v = wl at *
  generalize count v = cv at *
  generalize Tre.Right v = rv at *
  generalize v.keys.length = lk at *
  generalize v.kids.length = lv at *
  generalize v.is = vi at *
  generalize v.num = vn at *
  generalize v.str = vs at *
  generalize v.kind = k at *
  obtain ⟨W0, hW0⟩ : ∃ W0, w.alloc (.cells #[.int .i64 k, .bool vi, .bool vn.neg, .string (txt vn.dig), .int .i64 vn.exp, .string (txt vs), .slice pk lk ck, .slice a lv c] 29) = W0 := ⟨_, rfl⟩
  rw [hW0] at hA bA hw
  have HW := Lib.hid hW0
  have HWK := Lib.hid hw
  have HGR := Lib.hid hgr
  have HR := Lib.hid hR
  have HWL := Lib.hid hWk
  have HWD := Lib.hid hWd
  have HNL := Lib.hid hnl
  have HSUM := Lib.hid hsum
  have HA := Lib.hid hA
  have HB := Lib.hid bA
  have HTM := Lib.hid ht
  clear hW0 hw hgr hR hWk hWd hnl hsum hA bA ht hsp9 hl hp h
  go_enter Tryz.func7, Tryz.ntmps7
  go_wp2_with fail
  rw [HW.out]
  refine HWK.out.mono ?_
  rintro e w1 ⟨rfl, k1⟩
  have hA1 := (k1.block _ (lt_of_heap HA.out)).trans HA.out
  have b1 := HB.out.trans (k1.mono HB.out.size)
  obtain ⟨c0, c1, c2, c3, c4, c5, c6, c7⟩ := Tre.eight hA1
  have HG1 := Lib.hid (HGR.out _ b1)
  have HA1 := Lib.hid hA1
  have HB1 := Lib.hid b1
  clear hA1 b1 k1
  go_wp2_with fail
  refine HG1.out.mono ?_
  rintro e w2 ⟨⟨r, rfl, hr⟩, k2⟩
  have hA2 := (k2.block _ (lt_of_heap HA1.out)).trans HA1.out
  have b2 := HB1.out.trans (k2.mono HB1.out.size)
  have HA2 := Lib.hid hA2
  have HB2 := Lib.hid b2
  clear c0 c1 c2 c3 c4 c5 c6 c7
  cases r with
  | true =>
    clear hr hA2 b2 k2
    go_wp2_with fail
    go_ret
    exact ⟨rfl, HB2.out⟩
  | false =>
    obtain ⟨hf, hcn⟩ := hr rfl
    have hm : Mild v := ⟨1, hf⟩
    have hcv := hcn HTM.out
    obtain ⟨c0, c1, c2, c3, c4, c5, c6, c7⟩ := Tre.eight hA2
    have HR2 := Lib.hid (HR.out _ b2 hm)
    have HM := Lib.hid hm
    clear hr hf hcn hm hA2 b2 k2
    go_wp2_with fail
    refine HR2.out.mono ?_
    rintro e w3 ⟨⟨r, rfl, hr⟩, k3⟩
    have hA3 := (k3.block _ (lt_of_heap HA2.out)).trans HA2.out
    have b3 := HB2.out.trans (k3.mono HB2.out.size)
    have HA3 := Lib.hid hA3
    have HB3 := Lib.hid b3
    clear c0 c1 c2 c3 c4 c5 c6 c7
    cases r with
    | false =>
      clear hr hA3 b3 k3
      go_wp2_with fail
      go_ret
      exact ⟨rfl, HB3.out⟩
    | true =>
      have hright := hr.1 rfl
      have HRT := Lib.hid hright
      have HWL3 := Lib.hid (HWL.out _ b3 (by omega))
      obtain ⟨c0, c1, c2, c3, c4, c5, c6, c7⟩ := Tre.eight hA3
      clear hr hright hA3 b3 k3
      go_wp2_with fail
      refine HWL3.out.mono ?_
      rintro e w4 ⟨⟨y, css, rfl, hown, hsp⟩, k4⟩
      obtain ⟨gy, cy, rfl, hgy, hgyl, hycells⟩ := Tre.own_cells hown hpos
      have hA4 := (k4.block _ (lt_of_heap HA3.out)).trans HA3.out
      have b4 := HB3.out.trans (k4.mono HB3.out.size)
      have HA4 := Lib.hid hA4
      have HB4 := Lib.hid b4
      have HSP := Lib.hid hsp
      have HYC := Lib.hid hycells
      clear c0 c1 c2 c3 c4 c5 c6 c7 hown hsp hycells hA4 b4 k4
      obtain ⟨N, hN⟩ : ∃ N, wl.length = N := ⟨_, rfl⟩
      have HN := Lib.hid hN
      rw [hN] at hwl hpos ⊢
      clear hN
      go_wp2_with fail
      go_loopw [22, 3] (fun x z wr => ∃ j : Nat, x = .int .i64 j ∧ z = .int .i64 (cntN wl j) ∧ j ≤ N ∧ Below w4.heap.size w4 wr) (fun x _ _ => N - (intOf x).toNat)
      case atStart => exact ⟨0, rfl, rfl, Nat.zero_le _, Below.refl _ _⟩
      case round =>
        obtain ⟨j, rfl, rfl, hj, br⟩ := hrel
        have hcj := cnt_le wl j
        rw [HSUM.out] at hcj
        by_cases hlt : j < N
        · have hlt' : (j : Int) < (N : Int) := by omega
          have hlw : j < wl.length := by rw [HN.out]; exact hlt
          have hcss : j < css.length := by rw [HSP.out.1]; exact hlw
          obtain ⟨cs, hc9, hcP⟩ := HSP.out.2 j css[j] wl[j] (List.getElem?_eq_getElem hcss) (List.getElem?_eq_getElem hlw)
          have hsucc := cnt_succ hlw
          have hcj1 := cnt_le wl (j + 1)
          rw [HSUM.out] at hcj1
          generalize wl[j] = sp at *
          obtain ⟨dd, x⟩ := sp
          dsimp only at hc9 hcP hsucc
          obtain ⟨k', b', n', s', ks', vs'⟩ := x
          rw [Tre.HoldP] at hcP
          obtain ⟨uk', a', c', rfl, ⟨pk', ck', rfl, -⟩, -, -, -⟩ := hcP
          have hcell : ∀ i x, css[j][i]? = some x → i < 9 → wr.cell? ⟨gy, j * 9 + i, none⟩ = some x := fun i x hx hi => by
            have h1 := HYC.out (j * 9 + i) x (by rw [flat9 HSP.out.sizes.1 (List.getElem?_eq_getElem hcss) hi]; exact hx)
            rw [Addr.add_lit, Nat.zero_add] at h1
            exact (br.cell (p := ⟨gy, j * 9 + i, none⟩) hgyl).trans h1
          rw [hc9] at hcell
          have y0 := hcell 0 _ rfl (by decide)
          have y1 := hcell 1 _ rfl (by decide)
          have y2 := hcell 2 _ rfl (by decide)
          have y3 := hcell 3 _ rfl (by decide)
          have y4 := hcell 4 _ rfl (by decide)
          have y5 := hcell 5 _ rfl (by decide)
          have y6 := hcell 6 _ rfl (by decide)
          have y7 := hcell 7 _ rfl (by decide)
          have y8 := hcell 8 _ rfl (by decide)
          simp only [Nat.add_zero] at y0
          have hper : perNode ⟨k', b', n', s', ks', vs'⟩ = vs'.length + (if vs'.isEmpty then 0 else 1) := rfl
          rw [hper] at hsucc
          have hemp : vs'.isEmpty = decide (vs'.length = 0) := by cases vs' <;> simp
          rw [hemp] at hsucc
          generalize vs'.length = m at *
          generalize cntN wl j = cj at *
          have hgl := Nat.lt_of_lt_of_le hgyl br.size
          have wj : IntKind.i64.wrap ((j : Int) + 1) = (j : Int) + 1 := by simp only [IntKind.wrap, IntKind.signed, IntKind.bits]; simp; omega
          have bkid : Below w4.heap.size w4 (wr.alloc (.cells #[.int .i64 dd, .int .i64 k', .bool b', .bool n'.neg, .string (txt n'.dig), .int .i64 n'.exp, .string (txt s'), .slice pk' ks'.length ck', .slice a' m c'] 48)) := br.alloc br.size _
          have HBK := Lib.hid bkid
          have HSU := Lib.hid hsucc
          clear hcell hc9 hper hemp bkid
          by_cases hm0 : m = 0
          · subst hm0
            simp at hsucc
            have wm : IntKind.i64.wrap ((cj : Int) + 0) = (cj : Int) := by rw [Int.add_zero]; simp only [IntKind.wrap, IntKind.signed, IntKind.bits]; simp; omega
            have wm' : IntKind.i64.wrap (cj : Int) = (cj : Int) := by simp only [IntKind.wrap, IntKind.signed, IntKind.bits]; simp; omega
            have HEQ := Lib.hid hsucc
            clear hsucc
            go_wp2_with fail
            go_roundw
            case rel => exact ⟨j + 1, by go_num, by rw [HEQ.out], by omega, HBK.out⟩
            case measure => simp [intOf]; omega
          · have hm1 : (0 : Int) < (m : Int) := by omega
            have hm2 : decide (0 < m) = true := decide_eq_true (by omega)
            rw [decide_eq_false hm0] at hsucc
            simp at hsucc
            have wm : IntKind.i64.wrap ((cj : Int) + (m : Int)) = (cj : Int) + (m : Int) := by simp only [IntKind.wrap, IntKind.signed, IntKind.bits]; simp; omega
            have wm2 : IntKind.i64.wrap ((cj : Int) + (m : Int) + 1) = (cj : Int) + (m : Int) + 1 := by simp only [IntKind.wrap, IntKind.signed, IntKind.bits]; simp; omega
            have HEQ := Lib.hid hsucc
            clear hsucc hm0
            go_wp2_with fail
            go_roundw
            case rel => exact ⟨j + 1, by go_num, by rw [HEQ.out]; congr 1, by omega, HBK.out⟩
            case measure => simp [intOf]; omega
        · obtain rfl : j = N := by omega
          have hd : decide (j < j) = false := by simp
          have hfull : cntN wl j = L := by
            unfold cntN
            rw [← HN.out, List.take_length]
            exact HSUM.out
          rw [hfull]
          have hAr := (br.block _ (lt_of_heap HA4.out)).trans HA4.out
          have bR := HB4.out.trans (br.mono HB4.out.size)
          obtain ⟨c0, c1, c2, c3, c4, c5, c6, c7⟩ := Tre.eight hAr
          have HWD5 := Lib.hid (HWD.out _ bR HRT.out HM.out (by omega))
          have HBR := Lib.hid bR
          clear hAr bR br hfull
          go_wp2_with fail
          refine HWD5.out.mono ?_
          rintro e w5 ⟨rfl, k5, hlen⟩
          have HB5 := Lib.hid (HBR.out.trans (k5.mono HBR.out.size))
          have hs := txt_size out
          have HNN := Lib.hid (HNL.out HRT.out)
          clear k5 c0 c1 c2 c3 c4 c5 c6 c7
          go_wp2_with fail
          go_loopw [47, 8] (fun x z wr => ∃ i : Nat, x = .int .i64 i ∧ z = .int .i64 (nl (out.take i)) ∧ i ≤ out.length ∧ wr = w5) (fun x _ _ => out.length - (intOf x).toNat)
          case atStart => exact ⟨0, rfl, rfl, Nat.zero_le _, rfl⟩
          case round =>
            obtain ⟨i, rfl, rfl, hi, hwr⟩ := hrel
            subst hwr
            have hni := nl_le (out.take i)
            rw [List.length_take] at hni
            by_cases hilt : i < out.length
            · have hilt' : (i : Int) < (out.length : Int) := by omega
              have hix := idx hilt
              have hst := nl_take hilt
              have wi : IntKind.i64.wrap ((i : Int) + 1) = (i : Int) + 1 := by simp only [IntKind.wrap, IntKind.signed, IntKind.bits]; simp; omega
              generalize Utf.nb out i = bb at *
              generalize nl (out.take i) = ni at *
              by_cases hb : bb = 10
              · subst hb
                rw [if_pos rfl] at hst
                have wn : IntKind.i64.wrap ((ni : Int) + 1) = (ni : Int) + 1 := by simp only [IntKind.wrap, IntKind.signed, IntKind.bits]; simp; omega
                have HST := Lib.hid hst
                clear hst
                go_wp2_with fail
                go_roundw
                case rel => exact ⟨i + 1, by go_num, by rw [HST.out]; go_num, by omega, by first | trivial | rfl⟩
                case measure => simp [intOf]; omega
              · rw [if_neg hb] at hst
                have hb2 : (((bb : Nat) : Int) == 10) = false := by simp; omega
                have HST := Lib.hid hst
                clear hst hb
                go_wp2_with fail
                go_roundw
                case rel => exact ⟨i + 1, by go_num, by rw [HST.out]; go_num, by omega, by first | trivial | rfl⟩
                case measure => simp [intOf]; omega
            · obtain rfl : i = out.length := by omega
              have hd2 : decide (out.length < out.length) = false := by simp
              rw [List.take_length, HNN.out]
              clear hni
              go_wp2_with fail
              go_ret
              exact ⟨rfl, HB5.out⟩
end Go.Proofs.YtlfbnfphocpgeaaGreatDoor.Jenc
namespace Go.Proofs.YtlfbnfphocpgeaaGreatDoor.Num
open Go.RowKit Kit
/-- What the tables hold. -/
def Ok (w : World) : Prop := Tab w ∧ Pow w
theorem Ok.below {w w' : World} (h : Ok w) (k : Below w.heap.size w w') : Ok w' := ⟨h.1.below k, h.2.below k⟩
end Go.Proofs.YtlfbnfphocpgeaaGreatDoor.Num
namespace Go.Proofs.YtlfbnfphocpgeaaGreatDoor.Num
open Go.ChangeShapes Go.WideShapes Go.ChangeAt Go.RowKit Kit
def pcells : Array Value := (Lib.pow10Tab.map fun z => Value.int .u64 z).toArray
theorem gPow : Tryz.prog.globalNamed "internal/strconv.uint64pow10" = some 4 := by kernel_rfl
theorem tPow : (Tryz.prog.globals[4]?).map (·.type) = some 225 := by kernel_rfl
theorem plainPow : plainT Tryz.prog 5 225 = true := by kernel_rfl
theorem readsPow (W : World) : DataW.trod (fun _ => ()) Tryz.prog W 0 (fun _ => true) false 5 225 pcells.toList = some (Rows.laid_internal_strconv_uint64pow10, []) := by kernel_rfl
/-- One listed variable. -/
theorem listed {P : Program} {w : World} : ∀ {l : List (String × DataW Unit)} {ps : List MemPlace}, DataW.LaidVars P w l ps → ∀ {n : String} {d : DataW Unit}, (n, d) ∈ l →
    ∃ g t cs f p, P.globalNamed n = some g ∧ (P.globals[g]?).map (·.type) = some t ∧ w.var? P n = some cs ∧ DataW.trod (fun _ => ()) P w 0 (fun _ => true) false f t cs.toList = some (d, p)
  | [], _, _, _, _, hm => by cases hm
  | (n', d') :: r, ps, h, n, d, hm => by
    obtain ⟨g, t, cs, fuel, p, q, h1, h2, h3, h4, h5, _⟩ := h
    rcases List.mem_cons.1 hm with e | e
    · cases e
      exact ⟨g, t, cs, fuel, p, h1, h2, h3, h4⟩
    · exact listed h5 e
end Go.Proofs.YtlfbnfphocpgeaaGreatDoor.Num
namespace Go.Proofs.YtlfbnfphocpgeaaGreatDoor.Jenc
open Go.ChangeShapes Go.WideShapes Go.ChangeAt Go.RowKit Kit
theorem laid_both {W : World} {laid : List (String × DataW Unit)} (h : laidMetH Tryz.prog laid W) (hp : (laid.all fun x => x.2.handleName?.isNone) = true)
    (h1 : ("tabularium/utf.kinds", Rows.laid_tabularium_utf_kinds) ∈ laid) (h2 : ("internal/strconv.uint64pow10", Rows.laid_internal_strconv_uint64pow10) ∈ laid) : Utf.Laid W ∧ Num.Pow W := by
  rw [MakeChecks.laidMetH_plain _ _ _ hp] at h
  obtain ⟨ps, hv, _⟩ := h
  constructor
  · obtain ⟨g, t, cs, f, p, hg, ht, hvr, hd⟩ := Num.listed hv h1
    obtain rfl := Option.some.inj (Utf.gKinds.symm.trans hg)
    obtain rfl := Option.some.inj (Utf.tKinds.symm.trans ht)
    have e := trod_inj 5 227 _ _ _ _ _ _ _ Utf.plainKinds hd (Utf.readsKinds W)
    unfold World.var? at hvr
    rw [Utf.gKinds] at hvr
    simp only [Option.bind_some] at hvr
    split at hvr
    · rename_i c ty fr hh
      have : c = cs := Option.some.inj hvr
      subst this
      have : c = Utf.kcells := by
        rw [← Array.toArray_toList (xs := c), e]
      subst this
      exact ⟨_, _, hh⟩
    · cases hvr
  · obtain ⟨g, t, cs, f, p, hg, ht, hvr, hd⟩ := Num.listed hv h2
    obtain rfl := Option.some.inj (Num.gPow.symm.trans hg)
    obtain rfl := Option.some.inj (Num.tPow.symm.trans ht)
    have e := trod_inj 5 225 _ _ _ _ _ _ _ Num.plainPow hd (Num.readsPow W)
    show W.var? Tryz.prog "internal/strconv.uint64pow10" = some (Lib.pow10Tab.map fun z => Value.int .u64 z).toArray
    rw [hvr, ← Array.toArray_toList (xs := cs), e]
    rfl
end Go.Proofs.YtlfbnfphocpgeaaGreatDoor.Jenc
namespace Go.Proofs.YtlfbnfphocpgeaaGreatDoor.Tre
open Go.RowKit Kit Txt Go.ChangeShapes Go.WideShapes Go.Joins
open Num (Dec zero)
theorem pick_list {α : Type} {n : Nat} {R : Nat → α → Prop} (h : ∀ i, i < n → ∃ x, R i x) : ∃ l : List α, l.length = n ∧ ∀ i x, l[i]? = some x → R i x := by
  induction n with
  | zero => exact ⟨[], rfl, fun i x hx => by simp at hx⟩
  | succ n ih =>
    obtain ⟨l, hl, hR⟩ := ih fun i hi => h i (by omega)
    obtain ⟨x, hx⟩ := h n (by omega)
    refine ⟨l ++ [x], by simp [hl], fun i y hy => ?_⟩
    by_cases hi : i < l.length
    · rw [List.getElem?_append_left hi] at hy
      exact hR i y hy
    · rw [List.getElem?_append_right (by omega)] at hy
      have : i = l.length := by
        by_cases e : i - l.length = 0
        · omega
        · obtain ⟨k, hk⟩ : ∃ k, i - l.length = k + 1 := ⟨i - l.length - 1, by omega⟩
          rw [hk] at hy
          simp at hy
      subst this
      simp at hy
      subst hy
      rw [hl]
      exact hx
theorem holds_of {w : World} {g : Nat} : ∀ {vs : List Val} {off : Nat}, (∀ (i : Nat) (v : Val), vs[i]? = some v → ∃ cs, At8 w g (off + i * 8) cs ∧ Hold w cs v) → Holds w g off vs
  | [], _, _ => by rw [Holds]; trivial
  | x :: r, off, h => by
    rw [Holds]
    refine ⟨by simpa using h 0 x rfl, holds_of fun i v hv => ?_⟩
    have := h (i + 1) v (by simpa using hv)
    rwa [show off + (i + 1) * 8 = off + 8 + i * 8 by omega] at this
section
variable {H : Type} {enc : TypeId × Value → H} {W : World}
theorem weightsAll_mem {P : Program} {e : TypeId} : ∀ {l : List (DataW H)} {d : DataW H}, d ∈ l → ∀ n ∈ d.weights P e, n ∈ DataW.weightsAll P e l
  | a :: r, d, hd, n, hn => by
    rw [DataW.weightsAll]
    rcases List.mem_cons.1 hd with rfl | h
    · exact List.mem_append_left _ hn
    · exact List.mem_append_right _ (weightsAll_mem h n hn)
theorem keys_open {fuel : Nat} {c : Value} {x : DataW H × List MemPlace} (hf : DataW.trod enc Tryz.prog W 0 (fun _ => true) true fuel 26 [c] = some x) (hwt : ∀ n ∈ x.1.weights Tryz.prog 26, n ≤ reachBytes) : ∃ ls, Ks W c ls ∧ ls.length ≤ 10000000000000 := by
  have hc1 : Tryz.prog.cellsOf 9 = 1 := by kernel_rfl
  rcases DataW.trod_slice Tryz.underlying26 hf with ⟨hc, _⟩ | ⟨ad, len, cap, elems, rest, n, _, hc, hxe, _, hl, hm, hlen, hel, _, _⟩
  · injection hc with hc _
    exact ⟨[], ⟨none, 0, hc, Nat.le_refl _, by omega, .inl rfl⟩, by simp⟩
  · injection hc with hc _
    have hb16 : Tryz.prog.bytesOf 9 = 16 := by kernel_rfl
    have hlen16 : len ≤ 10000000000000 := by
      have := hwt ((elems.length + rest.length) * 16) (by rw [hxe]; simp [DataW.weights, Tryz.underlying26, hb16])
      unfold reachBytes at this
      omega
    obtain ⟨ps, hps, hp⟩ := pick_list (n := len) (R := fun i (l : List UInt8) => W.cell? (ad.add i) = some (.string (txt l))) fun i hi => by
      have hE := hel i hi
      rw [hc1, Nat.mul_one] at hE
      rw [List.getElem?_eq_getElem (by omega), Option.bind_eq_some_iff] at hE
      obtain ⟨cs, hcs, ht⟩ := hE
      obtain ⟨_, hcl, hcell⟩ := World.cells?_some hcs
      match cs, hcl with
      | [c0], _ =>
        obtain ⟨s, e, _, _⟩ := DataW.trod_string Tryz.underlying9 ht
        injection e with e _
        subst e
        refine ⟨s.data.toList, ?_⟩
        rw [← txt_data]
        simpa [Addr.add] using hcell 0 (by simp)
    have hmax : cap ≤ 9223372036854775807 := by
      have := hm
      unfold maxLen at this
      omega
    refine ⟨ps, ⟨some ad, cap, by rw [hps]; exact hc, by rw [hps]; exact hl, hmax, ?_⟩, by rw [hps]; exact hlen16⟩
    by_cases h0 : len = 0
    · exact .inl (List.length_eq_zero_iff.1 (by omega))
    · obtain ⟨b, off, spot⟩ := ad
      have h00 : 0 < ps.length := by omega
      have hfst := hp 0 ps[0] (List.getElem?_eq_getElem h00)
      have hspot : spot = none := by simpa [Addr.add] using World.cell?_spot hfst
      subst hspot
      rw [Addr.add_lit] at hfst
      refine .inr ⟨b, off, rfl, World.block_lt_of_cell? _ _ hfst, fun i l hi => ?_⟩
      have := hp i l hi
      rwa [Addr.add_lit] at this
set_option maxRecDepth 100000 in
theorem value_open : ∀ (fuel : Nat) (cs : List Value) (x : DataW H × List MemPlace), DataW.trod enc Tryz.prog W 0 (fun _ => true) true fuel 29 cs = some x → (∀ n ∈ x.1.weights Tryz.prog 29, n ≤ reachBytes) → ∃ v, Hold W cs v ∧ Tame v := by
  intro fuel
  induction fuel using Nat.strongRecOn with
  | ind fuel ih =>
    intro cs x h hwt
    have z1 : Tryz.prog.cellsOf 3 = 1 := by kernel_rfl
    have z2 : Tryz.prog.cellsOf 4 = 1 := by kernel_rfl
    have z3 : Tryz.prog.cellsOf 25 = 3 := by kernel_rfl
    have z4 : Tryz.prog.cellsOf 9 = 1 := by kernel_rfl
    have z5 : Tryz.prog.cellsOf 26 = 1 := by kernel_rfl
    have z6 : Tryz.prog.cellsOf 27 = 1 := by kernel_rfl
    have z8 : Tryz.prog.cellsOf 29 = 8 := by kernel_rfl
    obtain ⟨xs, n, hn, hxe, hl, hlen, hf⟩ := DataW.trod_struct Tryz.underlying29 h
    rw [z8] at hl
    match cs, hl, xs, hlen with
    | [c0, c1, c2, c3, c4, c5, c6, c7], _, [y0, y1, y2, y3, y4, y5], _ =>
      have t0 : DataW.trod enc Tryz.prog W 0 (fun _ => true) true n 3 (([c0, c1, c2, c3, c4, c5, c6, c7].drop 0).take (Tryz.prog.cellsOf 3)) = some y0 := hf 0 _ rfl
      have t1 : DataW.trod enc Tryz.prog W 0 (fun _ => true) true n 4 (([c0, c1, c2, c3, c4, c5, c6, c7].drop 1).take (Tryz.prog.cellsOf 4)) = some y1 := hf 1 _ rfl
      have t2 : DataW.trod enc Tryz.prog W 0 (fun _ => true) true n 25 (([c0, c1, c2, c3, c4, c5, c6, c7].drop 2).take (Tryz.prog.cellsOf 25)) = some y2 := hf 2 _ rfl
      have t3 : DataW.trod enc Tryz.prog W 0 (fun _ => true) true n 9 (([c0, c1, c2, c3, c4, c5, c6, c7].drop 5).take (Tryz.prog.cellsOf 9)) = some y3 := hf 3 _ rfl
      have t4 : DataW.trod enc Tryz.prog W 0 (fun _ => true) true n 26 (([c0, c1, c2, c3, c4, c5, c6, c7].drop 6).take (Tryz.prog.cellsOf 26)) = some y4 := hf 4 _ rfl
      have t5 : DataW.trod enc Tryz.prog W 0 (fun _ => true) true n 27 (([c0, c1, c2, c3, c4, c5, c6, c7].drop 7).take (Tryz.prog.cellsOf 27)) = some y5 := hf 5 _ rfl
      simp only [z1, z2, z3, z4, z5, z6, List.drop_zero, List.drop_succ_cons, List.take_succ_cons, List.take_zero] at t0 t1 t2 t3 t4 t5
      obtain ⟨k, e0, _, _⟩ := DataW.trod_int Tryz.underlying3 t0
      obtain ⟨b, e1, _⟩ := DataW.trod_bool Tryz.underlying4 t1
      obtain ⟨u0, u1, u2, m, _, _, n0, n1, n2⟩ := Go.Deep.trod_struct3 Tryz.underlying25 t2
      simp only [z1, z2, z4, List.drop_zero, List.drop_succ_cons, List.take_succ_cons, List.take_zero] at n0 n1 n2
      obtain ⟨ng, f0, _⟩ := DataW.trod_bool Tryz.underlying4 n0
      obtain ⟨dg, f1, _, _⟩ := DataW.trod_string Tryz.underlying9 n1
      obtain ⟨ex, f2, _, _⟩ := DataW.trod_int Tryz.underlying3 n2
      obtain ⟨s, e3, _, _⟩ := DataW.trod_string Tryz.underlying9 t3
      have W4 : ∀ m ∈ y4.1.weights Tryz.prog 26, m ≤ reachBytes := fun m hm => hwt m (by rw [hxe]; simp only [DataW.weights, Tryz.underlying29]; exact DataW.weights_mem_each (j := 4) rfl rfl m hm)
      have W5 : ∀ m ∈ y5.1.weights Tryz.prog 27, m ≤ reachBytes := fun m hm => hwt m (by rw [hxe]; simp only [DataW.weights, Tryz.underlying29]; exact DataW.weights_mem_each (j := 5) rfl rfl m hm)
      obtain ⟨ks, hks, hkl⟩ := keys_open t4 W4
      simp only [List.cons.injEq, and_true] at e0 e1 f0 f1 f2 e3
      subst e0; subst e1; subst f0; subst f1; subst f2; subst e3
      have hcs : ∀ (a : Option Addr) (len cap : Nat), [Value.int .i64 k, .bool b, .bool ng, .string dg, .int .i64 ex, .string s, c6, .slice a len cap] = cellsV k b ⟨ng, dg.data.toList, ex⟩ s.data.toList c6 (.slice a len cap) := fun a len cap => by
        unfold cellsV
        dsimp only
        rw [← txt_data, ← txt_data]
      rcases DataW.trod_slice Tryz.underlying27 t5 with ⟨hc, _⟩ | ⟨ad, len, cap, elems, rest, n', hn', hc, hx5, _, hll, hm, hlen', hel, _, _⟩
      · injection hc with hc _
        subst hc
        refine ⟨⟨k, b, ⟨ng, dg.data.toList, ex⟩, s.data.toList, ks, []⟩, ?_, by rw [Tame, Tames]; exact ⟨hkl, trivial⟩⟩
        rw [Hold]
        exact ⟨c6, none, 0, hcs _ _ _, hks, Nat.le_refl _, by omega, .inl rfl⟩
      · injection hc with hc _
        subst hc
        have hmax : cap ≤ 9223372036854775807 := by
          have := hm
          unfold maxLen at this
          omega
        obtain ⟨vs, hvs, hp⟩ := pick_list (n := len) (R := fun i (v : Val) => ∃ cs', W.cells? 0 (ad.add (i * 8)) 8 = some cs' ∧ Hold W cs' v ∧ Tame v) fun i hi => by
          have hE := hel i hi
          rw [z8] at hE
          rw [List.getElem?_eq_getElem (by omega), Option.bind_eq_some_iff] at hE
          obtain ⟨cs', hcs', ht⟩ := hE
          obtain ⟨v, hv, htm⟩ := ih n' (by omega) cs' _ ht fun m hm => W5 m (by
            rw [hx5]
            simp only [DataW.weights, Tryz.underlying27]
            exact List.mem_cons_of_mem _ (List.mem_append_left _ (weightsAll_mem (List.mem_map_of_mem (List.getElem_mem _)) m hm)))
          exact ⟨v, cs', hcs', hv, htm⟩
        refine ⟨⟨k, b, ⟨ng, dg.data.toList, ex⟩, s.data.toList, ks, vs⟩, ?_, by
          rw [Tame, tames_iff]
          refine ⟨hkl, fun v hv => ?_⟩
          obtain ⟨i, hi, e⟩ := List.mem_iff_getElem.1 hv
          obtain ⟨_, _, _, h3⟩ := hp i v (by rw [List.getElem?_eq_getElem hi, e])
          exact h3⟩
        rw [Hold]
        refine ⟨c6, some ad, cap, by rw [hvs]; exact hcs _ _ _, hks, by rw [hvs]; exact hll, hmax, ?_⟩
        by_cases h0 : len = 0
        · exact .inl (List.length_eq_zero_iff.1 (by omega))
        · obtain ⟨g, off, spot⟩ := ad
          obtain ⟨cs0, hcs0, -, -⟩ := hp 0 vs[0] (List.getElem?_eq_getElem (by omega))
          obtain ⟨_, hcl0, hcell0⟩ := World.cells?_some hcs0
          have hfst : ∃ q, W.cell? ((({ block := g, off := off, spot := spot } : Addr).add (0 * 8)).add 0) = some q := ⟨cs0[0]'(by omega), by rw [hcell0 0 (by omega)]; exact List.getElem?_eq_getElem (by omega)⟩
          obtain ⟨q, hq⟩ := hfst
          have hspot : spot = none := by simpa [Addr.add] using World.cell?_spot hq
          subst hspot
          rw [Addr.add_lit, Addr.add_lit] at hq
          refine .inr ⟨g, off, rfl, World.block_lt_of_cell? _ _ hq, holds_of fun i v hv => ?_⟩
          obtain ⟨cs', hcs', hh, -⟩ := hp i v hv
          obtain ⟨_, hcl, hcell⟩ := World.cells?_some hcs'
          refine ⟨cs', ⟨hcl, fun j hj => ?_⟩, hh⟩
          have := hcell j hj
          rwa [Addr.add_lit, Addr.add_lit] at this
set_option maxRecDepth 100000 in
theorem value_arg {r : Reach} {b0 : Nat} {v : Value} {d : DataW H} {p : List MemPlace} (hv : Value.okWide Tryz.prog W r b0 29 v) (h : DataW.Trod enc Tryz.prog W 0 (fun _ => true) true 29 v d p) (hwt : ∀ n ∈ d.weights Tryz.prog 29, n ≤ reachBytes) : ∃ x, HoldV W v x ∧ Tame x := by
  obtain ⟨cs, rfl, hsz⟩ := okWide_struct Tryz.underlying29 hv
  obtain ⟨fuel, hf⟩ := h
  obtain ⟨x, hx, ht⟩ := value_open fuel cs.toList _ hf hwt
  exact ⟨x, ⟨cs.toList, rfl, hx⟩, ht⟩
end
end Go.Proofs.YtlfbnfphocpgeaaGreatDoor.Tre
namespace Go.Proofs.YtlfbnfphocpgeaaGreatDoor.Jenc
open Go.ChangeShapes Go.WideShapes Go.ChangeAt Go.ChangeMaps Go.RowKit Kit
set_option maxRecDepth 100000 in
theorem lines_lifted (os : Os) (started : os.Started) (H : Type) (enc : TypeId × Value → H) :
    ReturnsInHanded {} Tryz.checked os 7 .any (fun w args => (Rows.jencLinesSpec.pre enc Tryz.prog Tryz.f7 [] false w args ∧ laidMetH Tryz.prog [("math/bits.deBruijn32tab", Rows.laid_math_bits_deBruijn32tab), ("math/bits.deBruijn64tab", Rows.laid_math_bits_deBruijn64tab), ("internal/strconv.uint64pow10", Rows.laid_internal_strconv_uint64pow10), ("tabularium/utf.kinds", Rows.laid_tabularium_utf_kinds)] w) ∧ sizedMet enc Tryz.prog Tryz.f7 (OpenSpec.ofChange Rows.jencLinesSpec) false w args)
      (Rows.jencLinesSpec.post enc Tryz.prog Tryz.f7 false true false false) := by
  refine returnsInHanded_of_change_and (C := Tryz.checked) (X := fun w _ => laidMetH Tryz.prog [("math/bits.deBruijn32tab", Rows.laid_math_bits_deBruijn32tab), ("math/bits.deBruijn64tab", Rows.laid_math_bits_deBruijn64tab), ("internal/strconv.uint64pow10", Rows.laid_internal_strconv_uint64pow10), ("tabularium/utf.kinds", Rows.laid_tabularium_utf_kinds)] w) (fun _ _ _ hh h => h.of_heap hh) own started (by kernel_rfl) Tryz.func7
    (ChangeSpec.witness_shaped (enc := enc) (C := Tryz.checked) (os := os) (X := fun w _ => laidMetH Tryz.prog [("math/bits.deBruijn32tab", Rows.laid_math_bits_deBruijn32tab), ("math/bits.deBruijn64tab", Rows.laid_math_bits_deBruijn64tab), ("internal/strconv.uint64pow10", Rows.laid_internal_strconv_uint64pow10), ("tabularium/utf.kinds", Rows.laid_tabularium_utf_kinds)] w) false (World.laidAll Tryz.prog os [("math/bits.deBruijn32tab", Rows.laid_math_bits_deBruijn32tab), ("math/bits.deBruijn64tab", Rows.laid_math_bits_deBruijn64tab), ("internal/strconv.uint64pow10", Rows.laid_internal_strconv_uint64pow10), ("tabularium/utf.kinds", Rows.laid_tabularium_utf_kinds)]) #[.agg #[.int .i64 0, .bool false, .bool false, .string ⟨#[]⟩, .int .i64 0, .string ⟨#[]⟩, .slice none 0 0, .slice none 0 0]] 8 (World.laidAll_os _ _ _) (World.shaped_of_ZipB (by kernel_rfl) (by kernel_rfl)) (by kernel_rfl) (by kernel_rfl) (by kernel_rfl)
      (by rw [MakeChecks.laidMetH_plain _ _ _ (by kernel_rfl)]; exact laidMet_laidAll _ (by kernel_rfl) (by kernel_rfl))) ?_
  intro W base args ds gs before hval0 hW _ hwt hL _
  have hval : ∀ (j : Nat) t v, Tryz.f7.params[j]? = some t → args[j]? = some v → Value.okWide Tryz.prog W .any base t v := hval0
  have hW' := hW
  obtain ⟨p, q, hA0, hV, rfl, hfz, hnd⟩ := hW
  have hA : DataW.TrodAll enc Tryz.prog W 0 (fun _ => true) true Tryz.f7.params.toList args.toList ds p := hA0
  rw [Tryz.params7] at hA hval hwt
  obtain ⟨v0, vs0, d0, ds0, p0, q0, hargs, rfl, rfl, h0, r0⟩ := trodAll_cons hA
  obtain ⟨rfl, rfl, rfl⟩ := trodAll_nil r0
  obtain rfl : args = #[v0] := by cases args; simp_all
  obtain ⟨rfl, rfl⟩ := trodVars_none hV
  obtain ⟨x0, w0, t0⟩ := Tre.value_arg (hval 0 29 v0 rfl rfl) h0 fun n hn => by simpa using List.all_eq_true.1 hwt n (DataW.weights_mem_each (j := 0) rfl rfl n hn)
  have hT := laid_both hL (by kernel_rfl) (by simp) (by simp)
  refine (lines_law hT.1 hT.2 t0 w0).mono fun e W' ⟨he, hg⟩ => ?_
  subst he
  exact ⟨_, rfl, law_done (tb := 4) Kit.laid rfl rfl (by kernel_rfl) Tryz.underlying4 (by decide +kernel) hW' hg⟩
theorem lines_holds_row : Rows.JencLinesSaid :=
  OpenClaim.holds_of_wide 7 Tryz.f7 rfl rfl rfl rfl rfl rfl rfl ⟨rfl, rfl, rfl, rfl, rfl⟩ rfl rfl rfl rfl rfl (by kernel_rfl) Tryz.func7 (by kernel_rfl)
    (of_decide_eq_true (by kernel_rfl)) (by unfold Func.isWrapper; first | (rw [if_pos (by decide +kernel)]; kernel_rfl) | (rw [if_neg (by decide +kernel)]; exact ⟨rfl, rfl⟩))
    (fun os started H enc _ => lines_lifted os started H enc)
theorem lines_holds : Rows.JencLinesCardSaid :=
  Claim7.holds_tied_plain_at .later _ _ _ _ _
    lines_holds_row (fun _ h => by cases h) (by kernel_rfl) (fun _ h => by cases h) jencLines_row_tie rfl ⟨rfl, rfl⟩ (by kernel_rfl) rfl
    (fun f fn hf hfn => by
      obtain rfl : f = 7 := Option.some.inj ((show Tryz.prog.funcNamed "tabularium/tabulariumlaw10.JencLines" = some 7 by kernel_rfl).symm.trans hf) |>.symm
      obtain rfl : fn = Tryz.f7 := (Option.some.inj (Tryz.func7.symm.trans hfn)).symm
      exact ⟨by kernel_rfl, fun j t ht => by
        rw [Tryz.params7] at ht
        have hm : t ∈ [29] := by simpa using Array.mem_of_getElem? ht
        have hall : ([29].all fun u => !Tryz.prog.wantsStandIn u) = true := by kernel_rfl
        exact (show Tryz.prog.wantsStandIn t = false by simpa using List.all_eq_true.1 hall t hm)⟩)
    (by kernel_rfl)
end Go.Proofs.YtlfbnfphocpgeaaGreatDoor.Jenc
