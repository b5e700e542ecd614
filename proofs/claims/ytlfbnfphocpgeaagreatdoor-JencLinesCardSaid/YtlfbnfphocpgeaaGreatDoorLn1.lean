/- A part of what lines_holds leans on (its texts, put together). Nothing is claimed here. -/
import Derived.Lib.Hide
import Derived.Deep.AppendLies
import Derived.Shelf.Abstract
import Derived.RangeFuncBox
import Derived.OwnWalk
import Derived.BigQuiet
import Derived.Deep.RegionWith
import Derived.Deep.RegionLaw
import Derived.Deep.RegionHeld3
import Derived.Deep.CutRange
import Derived.Deep.OwnRows
import Derived.Lib.Builder
import Derived.Lib.AppendStr
import Derived.Lib.UnsafeStr
import Derived.Laws.Externs
import Derived.Shelf.RegionOpenPlain
import Derived.Laws.World
import Derived.Lib.Strings
import Derived.Lib.Bytealg
import Derived.Lib.IndexAny
import Derived.Lib.TrimByte
import Derived.Lib.Repeat
import Derived.Lib.Small
import Derived.Lib.ItoaNum
import Derived.Deep.Cut
import Derived.Deep.QuietTactic
import Derived.Test.YtlfbnfphocpgeaaGreatDoorShelf
import Derived.Lib.MinMax
import Derived.StillTailTactics
import Derived.Lib.AppendIntMem
import Derived.Test.YtlfbnfphocpgeaaGreatDoorLn0
namespace Go.Proofs.YtlfbnfphocpgeaaGreatDoor.Tre
open Go.RowKit Kit Txt
open Num (Dec zero)
mutual
/-- No deeper than 70 from so deep on, no text of more than 2000 bytes, no number of more than 1200 digits. -/
def Fine (d : Nat) : Val → Prop
  | ⟨_, _, n, s, ks, vs⟩ => d ≤ 70 ∧ s.length ≤ 2000 ∧ n.dig.length ≤ 1200 ∧ (∀ x ∈ ks, x.length ≤ 2000) ∧ Fines (d + 1) vs
def Fines (d : Nat) : List Val → Prop
  | [] => True
  | v :: r => Fine d v ∧ Fines d r
end
theorem fines_iff {d : Nat} {vs : List Val} : Fines d vs ↔ ∀ v ∈ vs, Fine d v := by
  induction vs with
  | nil => simp [Fines]
  | cons v r ih =>
    rw [Fines, ih]
    simp
mutual
/-- Each list of keys has a length that no sum with small numbers wraps. -/
def Tame : Val → Prop
  | ⟨_, _, _, _, ks, vs⟩ => ks.length ≤ 10000000000000 ∧ Tames vs
def Tames : List Val → Prop
  | [] => True
  | v :: r => Tame v ∧ Tames r
end
theorem tames_iff {vs : List Val} : Tames vs ↔ ∀ v ∈ vs, Tame v := by
  induction vs with
  | nil => simp [Tames]
  | cons v r ih =>
    rw [Tames, ih]
    simp
mutual
/-- How many values and keys. -/
def count : Val → Nat
  | ⟨_, _, _, _, ks, vs⟩ => 1 + ks.length + counts vs
def counts : List Val → Nat
  | [] => 0
  | v :: r => count v + counts r
end
theorem counts_snoc : ∀ (a : List Val) (v : Val), counts (a ++ [v]) = counts a + count v
  | [], v => by simp [counts]
  | x :: a, v => by rw [List.cons_append, counts, counts, counts_snoc a v, Nat.add_assoc]
/-- What room tells. -/
def Told (d : Nat) (v : Val) (z r : Int) : Prop := -9223372036854775808 ≤ r ∧ r ≤ 9223372036854775807 ∧ (0 ≤ r → Fine d v ∧ (Tame v → r + (count v : Int) ≤ z))
theorem told_no (d : Nat) (v : Val) (z : Int) : Told d v z (-1) := ⟨by omega, by omega, fun h => absurd h (by omega)⟩
theorem wrap_range (z : Int) : -9223372036854775808 ≤ IntKind.i64.wrap z ∧ IntKind.i64.wrap z ≤ 9223372036854775807 := by
  simp only [IntKind.wrap, IntKind.signed, IntKind.bits]
  simp
  omega
theorem wrap_id {z : Int} (h1 : -9223372036854775808 ≤ z) (h2 : z ≤ 9223372036854775807) : IntKind.i64.wrap z = z := by
  simp only [IntKind.wrap, IntKind.signed, IntKind.bits]
  simp
  omega
set_option maxRecDepth 100000 in
set_option maxHeartbeats 8000000 in
theorem rroom_any : ∀ (v : Val) (w : World) (u : Value) (d : Nat) (z : Int), d ≤ 71 → 0 ≤ z → z ≤ 9223372036854775807 → HoldV w u v → Calls Tryz.prog 33 #[u, .int .i64 d, .int .i64 z] w fun e w' => (∃ r : Int, e = .returned (.int .i64 r) ∧ Told d v z r) ∧ Below w.heap.size w w' := by
  refine ind1 fun v ih w u d z hd hz0 hz1 h => ?_
  have HT0 := Lib.hid (told_no d v z)
  obtain ⟨k, b, n, s, ks, vs⟩ := v
  obtain ⟨cs, rfl, hc⟩ := h
  rw [Hold] at hc
  obtain ⟨uk, a, c, rfl, hk, hcap, hmax, hv⟩ := hc
  obtain ⟨pk, ck, rfl, hck, hmk, hxk⟩ := hk
  show Calls Tryz.prog 33 #[.agg #[.int .i64 k, .bool b, .bool n.neg, .string (txt n.dig), .int .i64 n.exp, .string (txt s), .slice pk ks.length ck, .slice a vs.length c], .int .i64 d, .int .i64 z] w _
  have hA := World.alloc_heap_new w (.cells #[.int .i64 k, .bool b, .bool n.neg, .string (txt n.dig), .int .i64 n.exp, .string (txt s), .slice pk ks.length ck, .slice a vs.length c] 29)
  have bA : Below w.heap.size w (w.alloc (.cells #[.int .i64 k, .bool b, .bool n.neg, .string (txt n.dig), .int .i64 n.exp, .string (txt s), .slice pk ks.length ck, .slice a vs.length c] 29)) := (Below.refl _ w).alloc (Nat.le_refl _) _
  obtain ⟨c0, c1, c2, c3, c4, c5, c6, c7⟩ := eight hA
  have hss := txt_size s
  have hsn := txt_size n.dig
  by_cases hbad : 70 < d ∨ 2000 < s.length ∨ 1200 < n.dig.length
  · have hcs : (70 : Int) < (d : Int) ∨ (decide ((70 : Int) < (d : Int)) = false ∧ (2000 : Int) < (s.length : Int)) ∨ (decide ((70 : Int) < (d : Int)) = false ∧ decide ((2000 : Int) < (s.length : Int)) = false ∧ (1200 : Int) < (n.dig.length : Int)) := by
      simp
      omega
    clear hxk hv ih hbad
    rcases hcs with e1 | ⟨e1, e2⟩ | ⟨e1, e2, e3⟩
    all_goals
      go_enter Tryz.func33, Tryz.ntmps33
      go_wp2_with fail
      go_ret
      exact ⟨⟨_, rfl, HT0.out⟩, bA⟩
  · have e1 : decide ((70 : Int) < (d : Int)) = false := by simp; omega
    have e2 : decide ((2000 : Int) < (s.length : Int)) = false := by simp; omega
    have e3 : decide ((1200 : Int) < (n.dig.length : Int)) = false := by simp; omega
    obtain ⟨m, hm⟩ : ∃ m : Nat, s.length + n.dig.length = m := ⟨_, rfl⟩
    obtain ⟨q, hq⟩ : ∃ q : Nat, m / 50 = q := ⟨_, rfl⟩
    have w1 : IntKind.i64.wrap (z - 1) = z - 1 := wrap_id (by omega) (by omega)
    have w2 : IntKind.i64.wrap ((s.length : Int) + (n.dig.length : Int)) = (m : Int) := by rw [wrap_id (by omega) (by omega)]; omega
    have w3 : (m : Int).tdiv 50 = (q : Int) := by rw [Int.tdiv_eq_ediv_of_nonneg (by omega)]; omega
    have w3' : (m : Int) / 50 = (q : Int) := by omega
    have w4 : IntKind.i64.wrap (q : Int) = (q : Int) := wrap_id (by omega) (by omega)
    obtain ⟨L0, w5⟩ : ∃ L, IntKind.i64.wrap (z - 1 - (ks.length : Int)) = L := ⟨_, rfl⟩
    obtain ⟨L, w6⟩ : ∃ L, IntKind.i64.wrap (L0 - (q : Int)) = L := ⟨_, rfl⟩
    have hLr := wrap_range (L0 - (q : Int))
    rw [w6] at hLr
    have hLt : ks.length ≤ 10000000000000 → L ≤ z - 1 - (ks.length : Int) := fun h => by
      have f1 : L0 = z - 1 - (ks.length : Int) := by rw [← w5, wrap_id (by omega) (by omega)]
      have f2 : L = L0 - (q : Int) := by rw [← w6, wrap_id (by omega) (by omega)]
      omega
    have HLt := Lib.hid hLt
    have HB := Lib.hid hbad
    clear hLt hbad
    go_enter Tryz.func33, Tryz.ntmps33
    go_wp2_with fail
    clear c0 c1 c2 c3 c4 c5 c6 c7 w1 w2 w3 w3' w4 w5 w6 e1 e2 e3 hm hq
    have HX := Lib.hid hxk
    have HV := Lib.hid hv
    clear hxk hv
    go_loopw [2, 7] (fun x y wr => ∃ (L' : Int) (j : Nat), j ≤ ks.length ∧ x = .int .i64 L' ∧ y = .int .i64 j ∧ -9223372036854775808 ≤ L' ∧ L' ≤ 9223372036854775807 ∧ (∀ t ∈ ks.take j, t.length ≤ 2000) ∧ (ks.length ≤ 10000000000000 → L' ≤ z - 1 - (ks.length : Int)) ∧ wr.heap[w.heap.size]? = some (.cells #[.int .i64 k, .bool b, .bool n.neg, .string (txt n.dig), .int .i64 n.exp, .string (txt s), .slice pk ks.length ck, .slice a vs.length c] 29 (0, 0)) ∧ Below w.heap.size w wr) (fun _ y _ => ks.length - (intOf y).toNat)
    case atStart => exact ⟨L, 0, Nat.zero_le _, rfl, rfl, hLr.1, hLr.2, fun t ht => absurd ht (by simp), HLt.out, hA, bA⟩
    case round =>
      obtain ⟨L', j, hj, rfl, rfl, hr1, hr2, hks, hle, hA2, bB⟩ := hrel
      clear hA bA hLr
      obtain ⟨c0, c1, c2, c3, c4, c5, c6, c7⟩ := eight hA2
      have hal := lt_of_heap hA2
      have HK := Lib.hid hks
      have HLe := Lib.hid hle
      clear hks hle
      by_cases hgo : j < ks.length ∧ 0 ≤ L'
      · obtain ⟨hlt, hL0⟩ := hgo
        have hlt' : (j : Int) < (ks.length : Int) := by omega
        rcases HX.out with h0 | ⟨gk, ok, rfl, hgk, hxk⟩
        · rw [h0] at hlt
          exact absurd hlt (Nat.not_lt_zero _)
        have ck0 := (bB.cell (p := ⟨gk, ok + j, none⟩) hgk).trans (hxk j _ (List.getElem?_eq_getElem hlt))
        have hgkl := Nat.lt_of_lt_of_le hgk bB.size
        have HT := Lib.hid (List.take_succ_eq_append_getElem hlt)
        clear hxk
        generalize ks[j] = t at *
        have hts := txt_size t
        have wk : IntKind.i64.wrap ((j : Int) + 1) = (j : Int) + 1 := wrap_id (by omega) (by omega)
        by_cases h2 : 2000 < t.length
        · have h2' : (2000 : Int) < (t.length : Int) := by omega
          go_wp2_with fail
          go_ret
          exact ⟨⟨_, rfl, HT0.out⟩, bB⟩
        · have h2' : decide ((2000 : Int) < (t.length : Int)) = false := by simp; omega
          obtain ⟨p, hp⟩ : ∃ p : Nat, t.length / 50 = p := ⟨_, rfl⟩
          have v3 : (t.length : Int).tdiv 50 = (p : Int) := by rw [Int.tdiv_eq_ediv_of_nonneg (by omega)]; omega
          have v3' : (t.length : Int) / 50 = (p : Int) := by omega
          have v4 : IntKind.i64.wrap (p : Int) = (p : Int) := wrap_id (by omega) (by omega)
          have v5 : IntKind.i64.wrap (L' - (p : Int)) = L' - (p : Int) := wrap_id (by omega) (by omega)
          have hnext : ∀ x ∈ ks.take (j + 1), x.length ≤ 2000 := fun x hx => by
            rw [HT.out] at hx
            rcases List.mem_append.1 hx with hx | hx
            · exact HK.out x hx
            · rw [List.mem_singleton.1 hx]
              omega
          have hle2 : ks.length ≤ 10000000000000 → L' - (p : Int) ≤ z - 1 - (ks.length : Int) := fun h => by
            have := HLe.out h
            omega
          have HN := Lib.hid hnext
          have HL2 := Lib.hid hle2
          clear hnext hle2 hp
          go_wp2_with fail
          go_roundw
          case rel => exact ⟨L' - (p : Int), j + 1, by omega, rfl, by go_num, by omega, by omega, HN.out, HL2.out, hA2, bB⟩
          case measure => simp [intOf]; omega
      · have hall : 0 ≤ L' → ∀ t ∈ ks, t.length ≤ 2000 := fun h t ht => HK.out t (by rw [List.take_of_length_le (by omega)]; exact ht)
        have HA := Lib.hid hall
        have hcs : decide (j < ks.length) = false ∨ ((j : Int) < (ks.length : Int) ∧ decide (0 ≤ L') = false) := by
          simp
          omega
        clear hall hgo
        rcases hcs with g1 | ⟨g1, g2⟩
        all_goals
          go_wp2_with fail
          clear c0 c1 c2 c3 c4 c5 c6 c7
          go_loopw [2, 8] (fun x y wr => ∃ (M : Int) (i : Nat), i ≤ vs.length ∧ x = .int .i64 M ∧ y = .int .i64 i ∧ -9223372036854775808 ≤ M ∧ M ≤ 9223372036854775807 ∧ (0 ≤ M → 0 ≤ L' ∧ (∀ t ∈ vs.take i, Fine (d + 1) t) ∧ ((∀ t ∈ vs, Tame t) → M + (counts (vs.take i) : Int) ≤ L')) ∧ wr.heap[w.heap.size]? = some (.cells #[.int .i64 k, .bool b, .bool n.neg, .string (txt n.dig), .int .i64 n.exp, .string (txt s), .slice pk ks.length ck, .slice a vs.length c] 29 (0, 0)) ∧ Below w.heap.size w wr) (fun _ y _ => vs.length - (intOf y).toNat)
          case atStart => exact ⟨L', 0, Nat.zero_le _, rfl, rfl, hr1, hr2, fun h => ⟨h, fun t ht => absurd ht (by simp), fun _ => by simp [counts]⟩, hA2, bB⟩
          case round =>
            obtain ⟨M, i, hi, rfl, rfl, m1, m2, hM, hA3, bC⟩ := hrel
            clear hA2 bB hal
            obtain ⟨c0, c1, c2, c3, c4, c5, c6, c7⟩ := eight hA3
            have hal := lt_of_heap hA3
            have HM := Lib.hid hM
            clear hM g1
            by_cases hgo : i < vs.length ∧ 0 ≤ M
            · obtain ⟨hlt, hM0⟩ := hgo
              have hlt' : (i : Int) < (vs.length : Int) := by omega
              rcases HV.out with h0 | ⟨g, off, rfl, hg, hx⟩
              · rw [h0] at hlt
                exact absurd hlt (Nat.not_lt_zero _)
              obtain ⟨cs8, h8, hh⟩ := Holds.at hx (List.getElem?_eq_getElem hlt)
              have hcall := fun wx u (h : HoldV wx u vs[i]) => ih vs[i] (List.getElem_mem hlt) wx u (d + 1) M (by have := HB.out; omega) hM0 m2 h
              have HMem := Lib.hid (show vs[i] ∈ vs from List.getElem_mem hlt)
              have HTk := Lib.hid (List.take_succ_eq_append_getElem hlt)
              generalize vs[i] = x at *
              have h8' := h8.below hg bC
              have hh' := Hold.below bC x hh
              clear hh h8 hx
              have hh2 := hh'
              obtain ⟨k', b', n', s', ks', vs'⟩ := x
              rw [Hold] at hh2
              obtain ⟨uk', a', c', rfl, -, -, -, -⟩ := hh2
              obtain ⟨d0, d1, d2, d3, d4, d5, d6, d7⟩ := h8'.cells
              have hcall' := hcall wr (.agg #[.int .i64 k', .bool b', .bool n'.neg, .string (txt n'.dig), .int .i64 n'.exp, .string (txt s'), uk', .slice a' vs'.length c']) ⟨_, rfl, hh'⟩
              clear hh' h8' hcall
              have hgl := Nat.lt_of_lt_of_le hg bC.size
              have wk : IntKind.i64.wrap ((i : Int) + 1) = (i : Int) + 1 := wrap_id (by omega) (by omega)
              have wd : IntKind.i64.wrap ((d : Int) + 1) = ((d + 1 : Nat) : Int) := by rw [wrap_id (by omega) (by omega)]; omega
              have HI := Lib.hid ih
              clear ih
              go_wp2_with fail
              refine hcall'.mono ?_
              rintro e w2 ⟨⟨r, rfl, hr⟩, k2⟩
              have b2 := bC.trans (k2.mono bC.size)
              have hA4 := (k2.block _ hal).trans hA3
              have hnew : 0 ≤ r → 0 ≤ L' ∧ (∀ t ∈ vs.take (i + 1), Fine (d + 1) t) ∧ ((∀ t ∈ vs, Tame t) → r + (counts (vs.take (i + 1)) : Int) ≤ L') := fun h => by
                obtain ⟨f1, f2⟩ := hr.2.2 h
                obtain ⟨f3, f4, f5⟩ := HM.out hM0
                rw [HTk.out]
                refine ⟨f3, fun t ht => ?_, fun ht => ?_⟩
                · rcases List.mem_append.1 ht with ht | ht
                  · exact f4 t ht
                  · rw [List.mem_singleton.1 ht]
                    exact f1
                · rw [counts_snoc]
                  have := f5 ht
                  have := f2 (ht _ HMem.out)
                  omega
              have HNew := Lib.hid hnew
              have r1 := hr.1
              have r2 := hr.2.1
              clear hnew hr
              go_wp2_with fail
              go_roundw
              case rel => exact ⟨r, i + 1, by omega, rfl, by go_num, r1, r2, HNew.out, hA4, b2⟩
              case measure => simp [intOf]; omega
            · have hend : Told d ⟨k, b, n, s, ks, vs⟩ z M := by
                refine ⟨m1, m2, fun h => ?_⟩
                obtain ⟨f3, f4, f5⟩ := HM.out h
                rw [List.take_of_length_le (by omega)] at f4 f5
                have hbd := HB.out
                refine ⟨?_, fun ht => ?_⟩
                · rw [Fine, fines_iff]
                  exact ⟨by omega, by omega, by omega, HA.out f3, f4⟩
                · rw [Tame, tames_iff] at ht
                  have := f5 ht.2
                  have := HLe.out ht.1
                  rw [count]
                  omega
              have HEnd := Lib.hid hend
              have hcs : decide (i < vs.length) = false ∨ ((i : Int) < (vs.length : Int) ∧ decide (0 ≤ M) = false) := by
                simp
                omega
              clear hend hgo
              rcases hcs with q1 | ⟨q1, q2⟩
              all_goals
                go_wp2_with fail
                go_ret
                exact ⟨⟨_, rfl, HEnd.out⟩, bC⟩
end Go.Proofs.YtlfbnfphocpgeaaGreatDoor.Tre
namespace Go.Proofs.YtlfbnfphocpgeaaGreatDoor.Tre
open Go.RowKit Kit Txt
open Num (Dec zero)
set_option maxRecDepth 100000 in
set_option maxHeartbeats 4000000 in
theorem rgreat_any {v : Val} {w : World} {u : Value} (h : HoldV w u v) : Calls Tryz.prog 18 #[u] w fun e w' => (∃ r : Bool, e = .returned (.bool r) ∧ (r = false → Fine 1 v ∧ (Tame v → count v ≤ 400))) ∧ Below w.heap.size w w' := by
  have hr := fun wx (hb : Below w.heap.size w wx) => rroom_any v wx u 1 400 (by omega) (by omega) (by omega) (h.below hb)
  obtain ⟨k, b, n, s, ks, vs⟩ := v
  obtain ⟨cs, rfl, hc⟩ := h
  rw [Hold] at hc
  obtain ⟨uk, a, c, rfl, -, -, -, -⟩ := hc
  have hr' : ∀ wx, Below w.heap.size w wx → Calls Tryz.prog 33 #[.agg #[.int .i64 k, .bool b, .bool n.neg, .string (txt n.dig), .int .i64 n.exp, .string (txt s), uk, .slice a vs.length c], .int .i64 1, .int .i64 400] wx fun e w' => (∃ r : Int, e = .returned (.int .i64 r) ∧ Told 1 ⟨k, b, n, s, ks, vs⟩ 400 r) ∧ Below wx.heap.size wx w' := hr
  show Calls Tryz.prog 18 #[.agg #[.int .i64 k, .bool b, .bool n.neg, .string (txt n.dig), .int .i64 n.exp, .string (txt s), uk, .slice a vs.length c]] w _
  have hA := World.alloc_heap_new w (.cells #[.int .i64 k, .bool b, .bool n.neg, .string (txt n.dig), .int .i64 n.exp, .string (txt s), uk, .slice a vs.length c] 29)
  have bA : Below w.heap.size w (w.alloc (.cells #[.int .i64 k, .bool b, .bool n.neg, .string (txt n.dig), .int .i64 n.exp, .string (txt s), uk, .slice a vs.length c] 29)) := (Below.refl _ w).alloc (Nat.le_refl _) _
  obtain ⟨c0, c1, c2, c3, c4, c5, c6, c7⟩ := eight hA
  clear hr
  go_enter Tryz.func18, Tryz.ntmps18
  go_wp2_with fail
  refine (hr' _ bA).mono ?_
  rintro e w1 ⟨⟨r, rfl, ht⟩, k1⟩
  have b1 := bA.trans (k1.mono bA.size)
  have HT := Lib.hid ht.2.2
  clear ht
  go_wp2_with fail
  go_ret
  refine ⟨⟨decide (r < 0), by simp, fun h => ?_⟩, b1⟩
  have h0 : 0 ≤ r := by simpa using h
  have := HT.out h0
  exact ⟨this.1, fun t => by have := this.2 t; omega⟩
end Go.Proofs.YtlfbnfphocpgeaaGreatDoor.Tre
namespace Go.Proofs.YtlfbnfphocpgeaaGreatDoor.Tre
open Go.RowKit Kit Txt
open Num (Dec zero)
/-- The slice holds the texts, in a block of that kind. -/
def KsP (X : Nat → Prop) (w : World) (u : Value) (ls : List (List UInt8)) : Prop :=
  ∃ a c, u = .slice a ls.length c ∧ ls.length ≤ c ∧ c ≤ 9223372036854775807 ∧ (ls = [] ∨ ∃ g off, a = some ⟨g, off, none⟩ ∧ X g ∧ g < w.heap.size ∧ ∀ (i : Nat) (l : List UInt8), ls[i]? = some l → w.cell? ⟨g, off + i, none⟩ = some (.string (txt l)))
theorem KsP.ks {X : Nat → Prop} {w : World} {u : Value} {ls : List (List UInt8)} (h : KsP X w u ls) : Ks w u ls := by
  obtain ⟨a, c, rfl, hc, hm, h⟩ := h
  exact ⟨a, c, rfl, hc, hm, h.imp id fun ⟨g, off, h1, _, h2⟩ => ⟨g, off, h1, h2⟩⟩
theorem KsP.of {w : World} {u : Value} {ls : List (List UInt8)} (h : Ks w u ls) : KsP (fun _ => True) w u ls := by
  obtain ⟨a, c, rfl, hc, hm, h⟩ := h
  exact ⟨a, c, rfl, hc, hm, h.imp id fun ⟨g, off, h1, h2⟩ => ⟨g, off, h1, trivial, h2⟩⟩
theorem KsP.mono {X Y : Nat → Prop} {w : World} {u : Value} {ls : List (List UInt8)} (h : KsP X w u ls) (hXY : ∀ g, X g → g < w.heap.size → Y g) : KsP Y w u ls := by
  obtain ⟨a, c, rfl, hc, hm, h⟩ := h
  exact ⟨a, c, rfl, hc, hm, h.imp id fun ⟨g, off, h1, h2, h3, h4⟩ => ⟨g, off, h1, hXY g h2 h3, h3, h4⟩⟩
theorem KsP.keep {X : Nat → Prop} {w w' : World} {u : Value} {ls : List (List UInt8)} (h : KsP X w u ls) (hz : w.heap.size ≤ w'.heap.size) (hk : ∀ g, X g → g < w.heap.size → w'.heap[g]? = w.heap[g]?) : KsP X w' u ls := by
  obtain ⟨a, c, rfl, hc, hm, h⟩ := h
  refine ⟨a, c, rfl, hc, hm, h.imp id fun ⟨g, off, h1, h2, h3, h4⟩ => ⟨g, off, h1, h2, Nat.lt_of_lt_of_le h3 hz, fun i l hi => ?_⟩⟩
  rw [← h4 i l hi]
  unfold World.cell?
  rw [hk g h2 h3]
mutual
/-- The cells hold the value, all its memory in blocks of that kind. -/
def HoldP (X : Nat → Prop) (w : World) (cs : List Value) : Val → Prop
  | ⟨k, i, n, s, ks, vs⟩ => ∃ uk a c, cs = cellsV k i n s uk (.slice a vs.length c) ∧ KsP X w uk ks ∧ vs.length ≤ c ∧ c ≤ 9223372036854775807 ∧ (vs = [] ∨ ∃ g off, a = some ⟨g, off, none⟩ ∧ X g ∧ g < w.heap.size ∧ HoldsP X w g off vs)
def HoldsP (X : Nat → Prop) (w : World) (g off : Nat) : List Val → Prop
  | [] => True
  | v :: r => (∃ cs, At8 w g off cs ∧ HoldP X w cs v) ∧ HoldsP X w g (off + 8) r
end
theorem at8_keep {w w' : World} {g off : Nat} {cs : List Value} (h : At8 w g off cs) (hk : w'.heap[g]? = w.heap[g]?) : At8 w' g off cs :=
  ⟨h.1, fun j hj => by
    rw [← h.2 j hj]
    unfold World.cell?
    rw [hk]⟩
mutual
theorem HoldP.hold {X : Nat → Prop} {w : World} : ∀ (v : Val) {cs : List Value}, HoldP X w cs v → Hold w cs v
  | ⟨k, i, n, s, ks, vs⟩, cs, h => by
    rw [HoldP] at h
    rw [Hold]
    obtain ⟨uk, a, c, hcs, hk, hc, hm, h⟩ := h
    refine ⟨uk, a, c, hcs, hk.ks, hc, hm, ?_⟩
    rcases h with h | ⟨g, off, ha, _, hg, hx⟩
    · exact .inl h
    · exact .inr ⟨g, off, ha, hg, HoldsP.holds vs hx⟩
theorem HoldsP.holds {X : Nat → Prop} {w : World} : ∀ (vs : List Val) {g off : Nat}, HoldsP X w g off vs → Holds w g off vs
  | [], _, _, _ => by rw [Holds]; trivial
  | v :: r, g, off, h => by
    rw [HoldsP] at h
    rw [Holds]
    obtain ⟨⟨cs, h8, hv⟩, hr⟩ := h
    exact ⟨⟨cs, h8, HoldP.hold v hv⟩, HoldsP.holds r hr⟩
end
mutual
theorem HoldP.of {w : World} : ∀ (v : Val) {cs : List Value}, Hold w cs v → HoldP (fun _ => True) w cs v
  | ⟨k, i, n, s, ks, vs⟩, cs, h => by
    rw [Hold] at h
    rw [HoldP]
    obtain ⟨uk, a, c, hcs, hk, hc, hm, h⟩ := h
    refine ⟨uk, a, c, hcs, .of hk, hc, hm, ?_⟩
    rcases h with h | ⟨g, off, ha, hg, hx⟩
    · exact .inl h
    · exact .inr ⟨g, off, ha, trivial, hg, HoldsP.of vs hx⟩
theorem HoldsP.of {w : World} : ∀ (vs : List Val) {g off : Nat}, Holds w g off vs → HoldsP (fun _ => True) w g off vs
  | [], _, _, _ => by rw [HoldsP]; trivial
  | v :: r, g, off, h => by
    rw [Holds] at h
    rw [HoldsP]
    obtain ⟨⟨cs, h8, hv⟩, hr⟩ := h
    exact ⟨⟨cs, h8, HoldP.of v hv⟩, HoldsP.of r hr⟩
end
mutual
theorem HoldP.mono {X Y : Nat → Prop} {w : World} (hXY : ∀ g, X g → g < w.heap.size → Y g) : ∀ (v : Val) {cs : List Value}, HoldP X w cs v → HoldP Y w cs v
  | ⟨k, i, n, s, ks, vs⟩, cs, h => by
    rw [HoldP] at h ⊢
    obtain ⟨uk, a, c, hcs, hk, hc, hm, h⟩ := h
    refine ⟨uk, a, c, hcs, hk.mono hXY, hc, hm, ?_⟩
    rcases h with h | ⟨g, off, ha, hX, hg, hx⟩
    · exact .inl h
    · exact .inr ⟨g, off, ha, hXY g hX hg, hg, HoldsP.mono hXY vs hx⟩
theorem HoldsP.mono {X Y : Nat → Prop} {w : World} (hXY : ∀ g, X g → g < w.heap.size → Y g) : ∀ (vs : List Val) {g off : Nat}, HoldsP X w g off vs → HoldsP Y w g off vs
  | [], _, _, _ => by rw [HoldsP]; trivial
  | v :: r, g, off, h => by
    rw [HoldsP] at h ⊢
    obtain ⟨⟨cs, h8, hv⟩, hr⟩ := h
    exact ⟨⟨cs, h8, HoldP.mono hXY v hv⟩, HoldsP.mono hXY r hr⟩
end
mutual
theorem HoldP.keep {X : Nat → Prop} {w w' : World} (hz : w.heap.size ≤ w'.heap.size) (hk : ∀ g, X g → g < w.heap.size → w'.heap[g]? = w.heap[g]?) : ∀ (v : Val) {cs : List Value}, HoldP X w cs v → HoldP X w' cs v
  | ⟨k, i, n, s, ks, vs⟩, cs, h => by
    rw [HoldP] at h ⊢
    obtain ⟨uk, a, c, hcs, hks, hc, hm, h⟩ := h
    refine ⟨uk, a, c, hcs, hks.keep hz hk, hc, hm, ?_⟩
    rcases h with h | ⟨g, off, ha, hX, hg, hx⟩
    · exact .inl h
    · exact .inr ⟨g, off, ha, hX, Nat.lt_of_lt_of_le hg hz, HoldsP.keep hz hk vs hX hg hx⟩
theorem HoldsP.keep {X : Nat → Prop} {w w' : World} (hz : w.heap.size ≤ w'.heap.size) (hk : ∀ g, X g → g < w.heap.size → w'.heap[g]? = w.heap[g]?) : ∀ (vs : List Val) {g off : Nat}, X g → g < w.heap.size → HoldsP X w g off vs → HoldsP X w' g off vs
  | [], _, _, _, _, _ => by rw [HoldsP]; trivial
  | v :: r, g, off, hX, hg, h => by
    rw [HoldsP] at h ⊢
    obtain ⟨⟨cs, h8, hv⟩, hr⟩ := h
    exact ⟨⟨cs, at8_keep h8 (hk g hX hg), HoldP.keep hz hk v hv⟩, HoldsP.keep hz hk r hX hg hr⟩
end
/-- A value by its cells, all its memory in blocks from B on. -/
def HoldF (B : Nat) (w : World) (u : Value) (v : Val) : Prop := ∃ cs : List Value, u = .agg cs.toArray ∧ HoldP (B ≤ ·) w cs v
theorem HoldF.hold {B : Nat} {w : World} {u : Value} {v : Val} (h : HoldF B w u v) : HoldV w u v := by
  obtain ⟨cs, hu, hc⟩ := h
  exact ⟨cs, hu, HoldP.hold v hc⟩
theorem HoldF.below {B : Nat} {w w' : World} {u : Value} {v : Val} (h : HoldF B w u v) (b : Below w.heap.size w w') : HoldF B w' u v := by
  obtain ⟨cs, hu, hc⟩ := h
  exact ⟨cs, hu, HoldP.keep b.size (fun g _ hg => b.block g hg) v hc⟩
theorem HoldF.mono {B B' : Nat} {w : World} {u : Value} {v : Val} (h : HoldF B w u v) (hB : B' ≤ B) : HoldF B' w u v := by
  obtain ⟨cs, hu, hc⟩ := h
  exact ⟨cs, hu, HoldP.mono (fun g h _ => Nat.le_trans hB h) v hc⟩
theorem holdP_len {X : Nat → Prop} {w : World} {cs : List Value} {v : Val} (h : HoldP X w cs v) : cs.length = 8 := by
  obtain ⟨k, i, n, s, ks, vs⟩ := v
  rw [HoldP] at h
  obtain ⟨uk, a, c, rfl, _⟩ := h
  rfl
theorem holdsP_of {X : Nat → Prop} {w : World} {g : Nat} : ∀ {vs : List Val} {off : Nat}, (∀ (i : Nat) (v : Val), vs[i]? = some v → ∃ cs, At8 w g (off + i * 8) cs ∧ HoldP X w cs v) → HoldsP X w g off vs
  | [], _, _ => by rw [HoldsP]; trivial
  | x :: r, off, h => by
    rw [HoldsP]
    refine ⟨by simpa using h 0 x rfl, holdsP_of fun i v hv => ?_⟩
    have := h (i + 1) v (by simpa using hv)
    rwa [show off + (i + 1) * 8 = off + 8 + i * 8 by omega] at this
/-- A row of values of the call's own: its block, and what each value holds, from B on; no value holds anything in the row's own block, nor in the block N. -/
def RowC (N : Option Nat) (B : Nat) (w : World) (u : Value) (vs : List Val) (cs : List (List Value)) : Prop :=
  cs.length = vs.length ∧ w.ownsRow B 29 8 u vs.length cs.flatten ∧ ∀ (i : Nat) (c : List Value) (v : Val), cs[i]? = some c → vs[i]? = some v → HoldP (fun g => B ≤ g ∧ u.ownBlock ≠ some g ∧ N ≠ some g) w c v
theorem RowC.nil (N : Option Nat) (B : Nat) (w : World) : RowC N B w (.slice none 0 0) [] [] := ⟨rfl, World.ownsRow_nil _ _ _ _, fun i c v h => by simp at h⟩
theorem RowC.below {N : Option Nat} {B : Nat} {w w' : World} {u : Value} {vs : List Val} {cs : List (List Value)} (h : RowC N B w u vs cs) (b : Below w.heap.size w w') : RowC N B w' u vs cs := by
  obtain ⟨hl, hown, hh⟩ := h
  refine ⟨hl, hown.kept (row := none) ⟨b.os, b.tape, b.output, b.size, fun k hk _ => b.block k hk⟩ ?_, fun i c v h1 h2 => HoldP.keep b.size (fun g _ hg => b.block g hg) v (hh i c v h1 h2)⟩
  cases u.ownBlock with
  | none => exact .inl rfl
  | some g => exact .inr (by simp)
theorem flatten_at {α : Type} : ∀ {cs : List (List α)} {i j : Nat} {c : List α}, (∀ x ∈ cs, x.length = 8) → cs[i]? = some c → j < 8 → cs.flatten[i * 8 + j]? = c[j]?
  | [], _, _, _, _, h, _ => by simp at h
  | x :: r, 0, j, c, hl, h, hj => by
    simp at h
    subst h
    rw [List.flatten_cons, List.getElem?_append_left (by rw [hl x (by simp)]; omega)]
    simp
  | x :: r, i + 1, j, c, hl, h, hj => by
    have ih := flatten_at (cs := r) (i := i) (j := j) (c := c) (fun y hy => hl y (by simp [hy])) (by simpa using h) hj
    have hx := hl x (by simp)
    rw [List.flatten_cons, List.getElem?_append_right (by omega), ← ih]
    congr 1
    omega
/-- What the row holds, as the kids of a value. -/
theorem RowC.holds {N : Option Nat} {B : Nat} {w : World} {u : Value} {vs : List Val} {cs : List (List Value)} (h : RowC N B w u vs cs) : ∃ a c, u = .slice a vs.length c ∧ vs.length ≤ c ∧ c ≤ 9223372036854775807 ∧ (vs = [] ∨ ∃ g off, a = some ⟨g, off, none⟩ ∧ B ≤ g ∧ g < w.heap.size ∧ HoldsP (B ≤ ·) w g off vs) := by
  obtain ⟨hl, hown, hh⟩ := h
  have h8 : ∀ x ∈ cs, x.length = 8 := fun x hx => by
    obtain ⟨i, hi, e⟩ := List.mem_iff_getElem.1 hx
    exact holdP_len (hh i x (vs[i]'(by omega)) (by rw [List.getElem?_eq_getElem hi, e]) (List.getElem?_eq_getElem (by omega)))
  rcases hown.2 with ⟨rfl, h0⟩ | ⟨g, cap, cur, rfl, hg, hb, hcap, hmax, hsz, htk⟩
  · have e0 : vs = [] := List.length_eq_zero_iff.1 h0
    subst e0
    exact ⟨none, 0, rfl, Nat.le_refl _, by omega, .inl rfl⟩
  · have hmx : cap ≤ 9223372036854775807 := by
      have := hmax
      unfold maxLen at this
      omega
    refine ⟨some ⟨g, 0, none⟩, cap, rfl, hcap, hmx, .inr ⟨g, 0, rfl, hg, lt_of_heap hb, holdsP_of fun i v hi => ?_⟩⟩
    have hil : i < vs.length := (List.getElem?_eq_some_iff.1 hi).1
    have hic : i < cs.length := by omega
    have hci : cs[i]? = some cs[i] := List.getElem?_eq_getElem hic
    have hP := hh i cs[i] v hci hi
    refine ⟨cs[i], ⟨holdP_len hP, fun j hj => ?_⟩, HoldP.mono (fun g h _ => h.1) v hP⟩
    have hfl := flatten_at h8 hci hj
    rw [← htk, List.getElem?_take, if_pos (by omega)] at hfl
    rw [cell_of hb, ← hfl, Nat.zero_add, ← Array.getElem?_toList]
/-- A row of texts of the call's own. -/
def RowT (B : Nat) (w : World) (u : Value) (ls : List (List UInt8)) : Prop := w.ownsRow B 9 1 u ls.length (ls.map fun l => .string (txt l))
theorem RowT.holds {B : Nat} {w : World} {u : Value} {ls : List (List UInt8)} (h : RowT B w u ls) : KsP (B ≤ ·) w u ls := by
  rcases h.2 with ⟨rfl, h0⟩ | ⟨g, cap, cur, rfl, hg, hb, hcap, hmax, hsz, htk⟩
  · have e0 : ls = [] := List.length_eq_zero_iff.1 h0
    subst e0
    exact ⟨none, 0, rfl, Nat.le_refl _, by omega, .inl rfl⟩
  · have hmx : cap ≤ 9223372036854775807 := by
      have := hmax
      unfold maxLen at this
      omega
    refine ⟨some ⟨g, 0, none⟩, cap, rfl, hcap, hmx, .inr ⟨g, 0, rfl, hg, lt_of_heap hb, fun i l hi => ?_⟩⟩
    have hil : i < ls.length := (List.getElem?_eq_some_iff.1 hi).1
    have hm : (ls.map fun l => Value.string (txt l))[i]? = some (.string (txt l)) := by rw [List.getElem?_map, hi]; rfl
    rw [← htk, List.getElem?_take, if_pos (by omega)] at hm
    rw [cell_of hb, Nat.zero_add, ← hm, ← Array.getElem?_toList]
end Go.Proofs.YtlfbnfphocpgeaaGreatDoor.Tre
namespace Go.Proofs.YtlfbnfphocpgeaaGreatDoor.Tre
open Go.RowKit Kit Txt
open Num (Dec zero)
theorem holdP_one {X : Nat → Prop} {w : World} {c : List Value} {v : Val} (h : HoldP X w c v) : ∀ u ∈ c, u.oneCell' = true := by
  obtain ⟨k, i, n, s, ks, vs⟩ := v
  rw [HoldP] at h
  obtain ⟨uk, a, cp, rfl, ⟨pk, ck, rfl, _⟩, _⟩ := h
  intro u hu
  simp only [cellsV, List.mem_cons, List.not_mem_nil, or_false] at hu
  rcases hu with rfl | rfl | rfl | rfl | rfl | rfl | rfl | rfl <;> rfl
theorem addr_at (N j : Nat) : (⟨N, 0, none⟩ : Addr).add j = ⟨N, j, none⟩ := by unfold Addr.add; split <;> simp_all
theorem RowT.nil (B : Nat) (w : World) : RowT B w (.slice none 0 0) [] := World.ownsRow_nil _ _ _ _
theorem RowT.below {B : Nat} {w w' : World} {u : Value} {ls : List (List UInt8)} (h : RowT B w u ls) (b : Below w.heap.size w w') : RowT B w' u ls := by
  refine World.ownsRow.kept h (row := none) ⟨b.os, b.tape, b.output, b.size, fun k hk _ => b.block k hk⟩ ?_
  cases u.ownBlock with
  | none => exact .inl rfl
  | some g => exact .inr (by simp)
end Go.Proofs.YtlfbnfphocpgeaaGreatDoor.Tre
namespace Go.Proofs.YtlfbnfphocpgeaaGreatDoor.Tre
open Go.RowKit Kit Txt
open Num (Dec zero)
theorem hold_none (w : World) : HoldV w (.agg #[.int .i64 0, .bool false, .bool false, .string ⟨#[]⟩, .int .i64 0, .string ⟨#[]⟩, .slice none 0 0, .slice none 0 0]) none' := by
  refine ⟨cellsV 0 false zero [] (.slice none 0 0) (.slice none 0 0), rfl, ?_⟩
  unfold none'
  rw [Hold]
  exact ⟨_, none, 0, rfl, ⟨none, 0, rfl, Nat.le_refl _, by omega, .inl rfl⟩, Nat.le_refl _, by omega, .inl rfl⟩
end Go.Proofs.YtlfbnfphocpgeaaGreatDoor.Tre
namespace Go.Proofs.YtlfbnfphocpgeaaGreatDoor.Tre
theorem nodup_len {α : Type} [DecidableEq α] : ∀ (a b : List α), a.Nodup → (∀ x ∈ a, x ∈ b) → a.length ≤ b.length
  | [], _, _, _ => Nat.zero_le _
  | x :: a, b, h, hs => by
    rw [List.nodup_cons] at h
    have hx := hs x (by simp)
    have ih := nodup_len a (b.erase x) h.2 fun y hy => (List.mem_erase_of_ne (fun e => h.1 (by rw [← e]; exact hy))).2 (hs y (by simp [hy]))
    rw [List.length_erase_of_mem hx] at ih
    have : 0 < b.length := List.length_pos_of_mem hx
    rw [List.length_cons]
    omega
/-- A key by its place. -/
abbrev kat (ks : List (List UInt8)) (i : Nat) : List UInt8 := ks.getD i []
/-- The places that are chosen: each below all chosen later, and below all that aren't chosen. -/
def Picked (ks : List (List UInt8)) (I : List Nat) : Prop :=
  I.Nodup ∧ (∀ i ∈ I, i < ks.length) ∧ I.Pairwise (fun i j => less (kat ks i) (kat ks j) = true) ∧ ∀ i ∈ I, ∀ j, j < ks.length → j ∉ I → less (kat ks i) (kat ks j) = true
/-- The best place among the first i that aren't chosen. -/
def Best (ks : List (List UInt8)) (I : List Nat) (i : Nat) (b : Int) : Prop :=
  (b = -1 ∧ ∀ j, j < i → j ∈ I) ∨ ∃ m : Nat, b = (m : Int) ∧ m < i ∧ m ∉ I ∧ ∀ j, j < i → j ∉ I → j = m ∨ less (kat ks m) (kat ks j) = true
theorem Picked.nil (ks : List (List UInt8)) : Picked ks [] := ⟨by simp, by simp, by simp, by simp⟩
theorem Best.nil (ks : List (List UInt8)) (I : List Nat) : Best ks I 0 (-1) := .inl ⟨rfl, fun _ h => absurd h (Nat.not_lt_zero _)⟩
theorem Best.first {ks : List (List UInt8)} {I : List Nat} {i : Nat} {b : Int} (h : Best ks I i b) (hb : b < 0) (hi : i ∉ I) : Best ks I (i + 1) (i : Int) := by
  rcases h with ⟨_, h⟩ | ⟨m, e, _⟩
  · refine .inr ⟨i, rfl, by omega, hi, fun j hj hjn => ?_⟩
    by_cases e : j = i
    · exact .inl e
    · exact absurd (h j (by omega)) hjn
  · omega
theorem kat_ne {ks : List (List UInt8)} (h : ks.Nodup) {i j : Nat} (hi : i < ks.length) (hj : j < ks.length) (hne : i ≠ j) : kat ks i ≠ kat ks j := by
  intro e
  unfold kat at e
  rw [List.getD_eq_getElem?_getD, List.getD_eq_getElem?_getD, List.getElem?_eq_getElem hi, List.getElem?_eq_getElem hj] at e
  have e' : ks[i] = ks[j] := e
  rcases Nat.lt_or_ge i j with hlt | hge
  · exact List.pairwise_iff_getElem.1 h i j hi hj hlt e'
  · exact List.pairwise_iff_getElem.1 h j i hj hi (by omega) e'.symm
theorem Best.more {ks : List (List UInt8)} {I : List Nat} {i m : Nat} (h : Best ks I i (m : Int)) (hn : ks.Nodup) (hil : i < ks.length) (hl : less (kat ks i) (kat ks m) = false) : Best ks I (i + 1) (m : Int) := by
  rcases h with ⟨e, _⟩ | ⟨m', e, hm, hmn, h⟩
  · omega
  · have e' : m' = m := by omega
    subst e'
    refine .inr ⟨m', rfl, by omega, hmn, fun j hj hjn => ?_⟩
    by_cases e : j = i
    · rw [e]
      exact .inr (less_total (kat_ne hn hil (by omega) (by omega)) hl)
    · exact h j (by omega) hjn
theorem Best.last {ks : List (List UInt8)} {I : List Nat} {b : Int} (h : Best ks I ks.length b) (hI : I.length < ks.length) : ∃ m : Nat, b = (m : Int) ∧ m < ks.length ∧ m ∉ I ∧ ∀ j, j < ks.length → j ∉ I → j = m ∨ less (kat ks m) (kat ks j) = true := by
  rcases h with ⟨_, h⟩ | h
  · exfalso
    have := nodup_len (List.range ks.length) I List.nodup_range fun x hx => h x (List.mem_range.1 hx)
    rw [List.length_range] at this
    omega
  · exact h
end Go.Proofs.YtlfbnfphocpgeaaGreatDoor.Tre
namespace Go.Proofs.YtlfbnfphocpgeaaGreatDoor.Tre
open Go.RowKit Kit Txt
open Num (Dec zero)
theorem set_other {w : World} {b b' i : Nat} {x : Obj} (h : w.heap[b']? = some x) (hne : b' ≠ b) (v : Value) : (w.setCell ⟨b, i, none⟩ v).heap[b']? = some x := (Below.heap_setCell w ⟨b, i, none⟩ v b' hne).trans h
theorem RowC.slice {N : Option Nat} {B : Nat} {w : World} {u : Value} {vs : List Val} {cs : List (List Value)} (h : RowC N B w u vs cs) : ∃ a c, u = .slice a vs.length c := by
  obtain ⟨a, c, hu, _⟩ := h.holds
  exact ⟨a, c, hu⟩
end Go.Proofs.YtlfbnfphocpgeaaGreatDoor.Tre
namespace Go.Proofs.YtlfbnfphocpgeaaGreatDoor.Tre
open Go.RowKit Kit Txt
open Num (Dec zero)
/-- Which places are gone. -/
def Gone (w : World) (g n : Nat) (I : List Nat) : Prop := ∃ arr : Array Value, w.heap[g]? = some (.cells arr 3 (0, 0)) ∧ arr.size = n ∧ ∀ i, i < n → arr[i]? = some (.int .i64 (if i ∈ I then 1 else 0))
theorem Gone.keep {w w' : World} {g n : Nat} {I : List Nat} (h : Gone w g n I) (k : w'.heap[g]? = w.heap[g]?) : Gone w' g n I := by
  obtain ⟨arr, h1, h2, h3⟩ := h
  exact ⟨arr, k.trans h1, h2, h3⟩
theorem Gone.new (w : World) (n : Nat) : Gone (w.alloc (.cells (madeCells #[.int .i64 0] n) 3)) w.heap.size n [] := by
  refine ⟨_, World.alloc_heap_new w _, size_madeCells _ _, fun i hi => ?_⟩
  rw [Array.getElem?_eq_getElem (by rw [size_madeCells]; exact hi)]
  simp [madeCells, Nat.mod_one]
theorem Gone.lt {w : World} {g n : Nat} {I : List Nat} (h : Gone w g n I) : g < w.heap.size := by
  obtain ⟨arr, h1, _⟩ := h
  exact lt_of_heap h1
theorem Gone.cell {w : World} {g n i : Nat} {I : List Nat} (h : Gone w g n I) (hi : i < n) : w.cell? ⟨g, i, none⟩ = some (.int .i64 (if i ∈ I then 1 else 0)) := by
  obtain ⟨arr, h1, h2, h3⟩ := h
  rw [cell_of h1, h3 i hi]
theorem Gone.free {w : World} {g n : Nat} {I : List Nat} (h : Gone w g n I) (i : Nat) : w.frozen? ⟨g, i, none⟩ = false := by
  obtain ⟨arr, h1, _⟩ := h
  exact free_of h1 i
theorem RowT.slice {B : Nat} {w : World} {u : Value} {ls : List (List UInt8)} (h : RowT B w u ls) : ∃ a c, u = .slice a ls.length c := by
  obtain ⟨a, c, hu, _⟩ := h.holds
  exact ⟨a, c, hu⟩
theorem own_diff {B : Nat} {w : World} {u1 u2 : Value} {M : Option Nat} {ls : List (List UInt8)} {vs : List Val} {cs : List (List Value)} (h1 : RowT B w u1 ls) (h2 : RowC M B w u2 vs cs) : ∀ g, u2.ownBlock = some g → u1.ownBlock ≠ some g := by
  intro g e2 e1
  rcases h1.2 with ⟨rfl, _⟩ | ⟨g1, c1, k1, rfl, _, hb1, _⟩
  · cases e1
  · rcases h2.2.1.2 with ⟨rfl, _⟩ | ⟨g2, c2, k2, rfl, _, hb2, _⟩
    · cases e2
    · have a1 : g1 = g := by simpa [Value.ownBlock] using e1
      have a2 : g2 = g := by simpa [Value.ownBlock] using e2
      subst a1; subst a2
      rw [hb1] at hb2
      injection hb2 with hb2
      injection hb2 with _ ht _
      exact absurd ht (by decide)
/-- A row of texts stays where a row of values grows. -/
theorem RowT.apart {B : Nat} {w w' : World} {u1 u2 : Value} {M : Option Nat} {ls : List (List UInt8)} {vs : List Val} {cs : List (List Value)} (h1 : RowT B w u1 ls) (h2 : RowC M B w u2 vs cs) (b : w.grownBy w' u2.ownBlock) : RowT B w' u1 ls := by
  refine World.ownsRow.kept h1 b ?_
  cases e : u1.ownBlock with
  | none => exact .inl rfl
  | some g => exact .inr fun h => own_diff h1 h2 g h.symm e
end Go.Proofs.YtlfbnfphocpgeaaGreatDoor.Tre
namespace Go.Proofs.YtlfbnfphocpgeaaGreatDoor.Tre
open Go.RowKit Kit Txt
theorem counts_mem : ∀ {vs : List Val} {x : Val}, x ∈ vs → count x ≤ counts vs
  | [], _, h => absurd h List.not_mem_nil
  | v :: r, x, h => by
    rw [counts]
    rcases List.mem_cons.1 h with e | h
    · rw [e]
      omega
    · have := counts_mem h
      omega
theorem counts_len : ∀ vs : List Val, vs.length ≤ counts vs
  | [] => Nat.zero_le _
  | v :: r => by
    rw [counts, List.length_cons]
    have := counts_len r
    have : 1 ≤ count v := by
      obtain ⟨k, b, n, s, ks, vs⟩ := v
      rw [count]
      omega
    omega
theorem count_kids {v : Val} : v.kids.length < count v ∧ ∀ x ∈ v.kids, count x < count v := by
  obtain ⟨k, b, n, s, ks, vs⟩ := v
  rw [count]
  unfold Val.kids
  dsimp only
  have := counts_len vs
  refine ⟨by omega, fun x hx => ?_⟩
  have := counts_mem hx
  omega
theorem counts_perm {a b : List Val} (h : a.Perm b) : counts a = counts b := by
  induction h with
  | nil => rfl
  | cons x _ ih => rw [counts, counts, ih]
  | swap x y l => rw [counts, counts, counts, counts]; omega
  | trans _ _ h1 h2 => exact h1.trans h2
mutual
theorem sort_count : ∀ v : Val, Whole v → count (sort v) = count v
  | ⟨k, i, n, s, ks, vs⟩, h => by
    rw [Whole] at h
    have ih := sorts_count vs h.2
    have ho := h.1
    unfold Own Val.kind Val.keys Val.kids at ho
    dsimp only at ho
    rw [sort_eq]
    unfold Val.kind Val.keys Val.kids
    dsimp only
    by_cases h6 : k = 6
    · have hl := ho.2.2.2.2.2.2.2.2.2.1 h6
      rw [if_pos h6, count, count, counts_perm (rows_kids hl), ih, (rows_keys hl).length_eq]
    · rw [if_neg h6, count, count, ih, ho.2.2.2.2.2.2.1 h6]
theorem sorts_count : ∀ vs : List Val, Wholes vs → counts (sorts vs) = counts vs
  | [], _ => rfl
  | v :: r, h => by
    rw [Wholes] at h
    rw [sorts, counts, counts, sort_count v h.1, sorts_count r h.2]
end
theorem fines_perm {d : Nat} {a b : List Val} (h : a.Perm b) : Fines d a ↔ Fines d b := by
  rw [fines_iff, fines_iff]
  exact ⟨fun k v hv => k v (h.mem_iff.2 hv), fun k v hv => k v (h.mem_iff.1 hv)⟩
mutual
theorem sort_fine : ∀ (v : Val) (d : Nat), Whole v → Fine d v → Fine d (sort v)
  | ⟨k, i, n, s, ks, vs⟩, d, h, hf => by
    rw [Whole] at h
    rw [Fine] at hf
    have ih := sorts_fine vs (d + 1) h.2 hf.2.2.2.2
    have ho := h.1
    unfold Own Val.kind Val.keys Val.kids at ho
    dsimp only at ho
    rw [sort_eq]
    unfold Val.kind Val.is Val.num Val.str Val.keys Val.kids
    dsimp only
    by_cases h6 : k = 6
    · have hl := ho.2.2.2.2.2.2.2.2.2.1 h6
      rw [if_pos h6, Fine]
      exact ⟨hf.1, hf.2.1, hf.2.2.1, fun x hx => hf.2.2.2.1 x ((rows_keys hl).mem_iff.1 hx), (fines_perm (rows_kids hl)).2 ih⟩
    · rw [if_neg h6, Fine]
      exact ⟨hf.1, hf.2.1, hf.2.2.1, fun x hx => absurd hx List.not_mem_nil, ih⟩
theorem sorts_fine : ∀ (vs : List Val) (d : Nat), Wholes vs → Fines d vs → Fines d (sorts vs)
  | [], _, _, _ => by rw [sorts, Fines]; trivial
  | v :: r, d, h, hf => by
    rw [Wholes] at h
    rw [Fines] at hf
    rw [sorts, Fines]
    exact ⟨sort_fine v d h.1 hf.1, sorts_fine r d h.2 hf.2⟩
end
end Go.Proofs.YtlfbnfphocpgeaaGreatDoor.Tre
namespace Go.Proofs.YtlfbnfphocpgeaaGreatDoor.Jenc
open Tre (Val Whole Wholes deep deeps sort sorts count counts)
/-- How often the byte A stands in bytes. -/
def nl (l : List UInt8) : Nat := l.countP fun c => decide (c = 10)
theorem nl_app (a b : List UInt8) : nl (a ++ b) = nl a + nl b := List.countP_append
theorem nl_none {l : List UInt8} (h : ∀ c ∈ l, c ≠ 10) : nl l = 0 := List.countP_eq_zero.2 fun c hc => by simpa using h c hc
theorem nl_brk (d : Nat) : nl (brk true d) = 1 := by
  have : nl (List.replicate d [32, 32]).flatten = 0 := nl_none fun c hc => by
    obtain ⟨l, hl, hc⟩ := List.mem_flatten.1 hc
    rw [List.eq_of_mem_replicate hl] at hc
    have : c = 32 := by simpa using hc
    rw [this]
    decide
  unfold brk
  rw [if_pos rfl]
  show nl ([10] ++ _) = 1
  rw [nl_app, this]
  decide
theorem esc_ten : ∀ x : _root_.Fin 256, ∀ c ∈ Quo.esc (UInt8.ofNat x.val), c ≠ 10 := by decide +kernel
theorem nl_quo (s : List UInt8) : nl (Quo.print s) = 0 := nl_none fun c hc => by
  unfold Quo.print at hc
  rcases List.mem_cons.1 hc with rfl | hc
  · decide
  · rcases List.mem_append.1 hc with hc | hc
    · obtain ⟨b, -, hb⟩ := List.mem_flatMap.1 hc
      have h := esc_ten ⟨b.toNat, b.toNat_lt⟩
      simp only [UInt8.ofNat_toNat] at h
      exact h c hb
    · rw [List.mem_singleton.1 hc]
      decide
theorem nl_num {n : Num.Dec} (h : Num.Right n) : nl (Num.print n) = 0 := nl_none fun c hc e => by
  have := (num_bytes h).2 c hc
  subst e
  exact absurd this (by decide)
mutual
def lines : Val → Nat
  | ⟨_, _, _, _, _, vs⟩ => vs.length + (if vs.isEmpty then 0 else 1) + liness vs
def liness : List Val → Nat
  | [] => 0
  | v :: r => lines v + liness r
end
mutual
theorem nl_prt : ∀ (v : Val) (d : Nat), Whole v → nl (prt true d v) = lines v
  | ⟨k, i, n, s, ks, vs⟩, d, h => by
    rw [Whole] at h
    obtain ⟨⟨l1, l2, a2, a3, a4, a5, a6, hr, hbad, hlen, hkb, hnd⟩, hw⟩ := h
    have flat : ∀ l : List UInt8, nl l = 0 → vs = [] → nl l = lines ⟨k, i, n, s, ks, vs⟩ := fun l hl hv => by
      rw [hl, lines, hv]
      rfl
    rw [prt]
    by_cases h1 : k = 1
    · rw [if_pos h1]
      exact flat _ (by decide) (a5 (show k < 5 by omega))
    rw [if_neg h1]
    by_cases h2 : k = 2
    · rw [if_pos h2]
      exact flat _ (by cases i <;> decide) (a5 (show k < 5 by omega))
    rw [if_neg h2]
    by_cases h3 : k = 3
    · rw [if_pos h3]
      exact flat _ (nl_num hr) (a5 (show k < 5 by omega))
    rw [if_neg h3]
    by_cases h4 : k = 4
    · rw [if_pos h4]
      exact flat _ (nl_quo _) (a5 (show k < 5 by omega))
    rw [if_neg h4]
    generalize decide (k = 6) = obj
    have e1 : nl [opener obj] = 0 := by cases obj <;> decide
    have e2 : nl [Jdec.close obj] = 0 := by cases obj <;> decide
    rw [← List.singleton_append, nl_app, nl_app, nl_app, e1, e2, nl_prts vs (d + 1) obj true ks hw, lines]
    cases vs with
    | nil => rfl
    | cons v r =>
      simp only [List.isEmpty_cons, Bool.false_eq_true, if_false, nl_brk]
      omega
theorem nl_prts : ∀ (vs : List Val) (d : Nat) (obj first : Bool) (ks : List (List UInt8)), Wholes vs → nl (prts true d obj first ks vs) = vs.length + liness vs
  | [], _, _, _, _, _ => by rw [prts, liness]; rfl
  | v :: r, d, obj, first, ks, h => by
    rw [Wholes] at h
    have e1 : nl (if first then [] else [44]) = 0 := by cases first <;> decide
    have e2 : nl (if obj then key true (ks.headD []) else []) = 0 := by
      cases obj with
      | false => rfl
      | true =>
        show nl (key true _) = 0
        unfold key
        rw [nl_app, nl_quo]
        decide
    rw [prts, nl_app, nl_app, nl_app, nl_app, e1, e2, nl_brk, nl_prt v d h.1, nl_prts r d obj false ks.tail h.2, liness, List.length_cons]
    omega
end
/-- As the walk through a value counts them. -/
def perNode (v : Val) : Nat := v.kids.length + (if v.kids.isEmpty then 0 else 1)
mutual
theorem lines_walk : ∀ (v : Val) (d : Nat), ((Tre.walk d v).map fun x => perNode x.2).sum = lines v
  | ⟨k, i, n, s, ks, vs⟩, d => by
    rw [Tre.walk, lines, List.map_cons, List.sum_cons, lines_walks vs (d + 1)]
    rfl
theorem lines_walks : ∀ (vs : List Val) (d : Nat), ((Tre.walks d vs).map fun x => perNode x.2).sum = liness vs
  | [], _ => rfl
  | v :: r, d => by rw [Tre.walks, liness, List.map_append, List.sum_append, lines_walk v d, lines_walks r d]
end
mutual
theorem lines_count : ∀ v : Val, lines v + 1 ≤ 2 * count v
  | ⟨k, i, n, s, ks, vs⟩ => by
    have h1 := liness_count vs
    rw [lines, count]
    split <;> omega
theorem liness_count : ∀ vs : List Val, liness vs + vs.length ≤ 2 * counts vs
  | [] => by simp [liness]
  | v :: r => by
    have h1 := lines_count v
    have h2 := liness_count r
    rw [liness, counts, List.length_cons]
    omega
end
theorem esc_six : ∀ x : _root_.Fin 256, (Quo.esc (UInt8.ofNat x.val)).length ≤ 6 := by decide +kernel
theorem esc_le (b : UInt8) : (Quo.esc b).length ≤ 6 := by
  have h := esc_six ⟨b.toNat, b.toNat_lt⟩
  simpa only [UInt8.ofNat_toNat] using h
theorem quo_len (s : List UInt8) : (Quo.print s).length ≤ 6 * s.length + 2 := by
  have : (s.flatMap Quo.esc).length ≤ 6 * s.length := by
    induction s with
    | nil => simp
    | cons b r ih =>
      rw [List.flatMap_cons, List.length_append, List.length_cons]
      have := esc_le b
      omega
  unfold Quo.print
  simp
  simp at this
  omega
theorem digits_five {x : Nat} (h : x ≤ 10000) : (Num.digits x).length ≤ 5 := Num.digits_len x 5 (by omega) (by decide)
theorem neg_len (b : Bool) : (Num.negT b).length ≤ 1 := by cases b <;> decide
theorem num_len {n : Num.Dec} (h : Num.Right n) : (Num.print n).length ≤ n.dig.length + 25 := by
  unfold Num.print
  have h1 := neg_len n.neg
  rw [if_neg (by simpa using h)]
  by_cases h0 : n.dig = []
  · rw [if_pos h0, h0]
    decide
  rw [if_neg h0]
  obtain ⟨-, -, -, -, -, e1, e2⟩ := Num.right_head h h0
  have d1 := digits_five (x := n.exp.toNat) (by omega)
  have d2 := digits_five (x := (-n.exp).toNat) (by omega)
  split
  · simp; omega
  split
  · simp; omega
  split
  · simp [Num.noughts_len]; omega
  split
  · simp; omega
  · simp [Num.noughts_len]; omega
theorem brk_len (wide : Bool) (d : Nat) : (brk wide d).length ≤ 2 * d + 1 := by
  cases wide
  · exact Nat.zero_le _
  · unfold brk
    rw [if_pos rfl, List.length_cons, List.length_flatten]
    simp
    omega
mutual
/-- How many pieces a print has. -/
theorem pcs_len : ∀ v : Val, (pcs v).length + 3 ≤ 5 * count v
  | ⟨k, i, n, s, ks, vs⟩ => by
    have h1 := pcss_len vs (decide (k = 6)) true ks
    rw [pcs, count]
    by_cases h1 : k = 1
    · rw [if_pos h1]; simp only [List.length_singleton]; omega
    rw [if_neg h1]
    by_cases h2 : k = 2
    · rw [if_pos h2]; simp only [List.length_singleton]; omega
    rw [if_neg h2]
    by_cases h3 : k = 3
    · rw [if_pos h3]; simp only [List.length_singleton]; omega
    rw [if_neg h3]
    by_cases h4 : k = 4
    · rw [if_pos h4]; simp only [List.length_singleton]; omega
    rw [if_neg h4, List.length_cons, List.length_append, List.length_singleton]
    omega
theorem pcss_len : ∀ (vs : List Val) (obj first : Bool) (ks : List (List UInt8)), (pcss obj first ks vs).length ≤ 5 * counts vs
  | [], _, _, _ => by rw [pcss]; exact Nat.zero_le _
  | v :: r, obj, first, ks => by
    have h1 := pcs_len v
    have h2 := pcss_len r obj false ks.tail
    have h3 : (if first then [] else [[(44 : UInt8)]]).length ≤ 1 := by cases first <;> decide
    have h4 : (if obj then [Quo.print (ks.headD []), [58]] else []).length ≤ 2 := by cases obj <;> simp
    rw [pcss, counts, List.length_append, List.length_append, List.length_append]
    omega
end
end Go.Proofs.YtlfbnfphocpgeaaGreatDoor.Jenc
namespace Go.Proofs.YtlfbnfphocpgeaaGreatDoor.Emb
open Go.RowKit Kit Txt
theorem sizeB : (Tryz.prog.info? 62).map (·.size) = some 2 := by kernel_rfl
theorem infoByte : (Tryz.prog.info? 5).map (fun i => (i.zero, i.size, i.bytes)) = some (some (.int .u8 0), 1, 1) := by kernel_rfl
theorem cellsByte : Tryz.prog.cellsOf 5 = 1 := by kernel_rfl
/-- A builder may lie at the head of a block of that type, of so many cells. -/
def Lies (T : TypeId) (n : Nat) : Prop := liesAt Tryz.prog Tryz.prog.depth T (n / Tryz.prog.cellsOf T) 0 62 1 = true ∧ T ≠ 5
/-- The builder at the head of block b (all that is its own from B on) holds bytes; 'rest': the block's other cells; 'p': what it holds of its own address. -/
def At (T : TypeId) (B b : Nat) (p : Value) (l : List UInt8) (rest : List Value) (w : World) : Prop :=
  B ≤ b ∧ B ≤ w.heap.size ∧ ∃ v, w.heap[b]? = some (.cells (p :: v :: rest).toArray T (0, 0)) ∧ w.ownsRow B 5 1 v l.length (Lib.byteCells l) ∧ v.ownBlock ≠ some b
def Emb (T : TypeId) (B b : Nat) (l : List UInt8) (rest : List Value) (w : World) : Prop := At T B b (.pointer none) l rest w ∨ At T B b (.pointer (some ⟨b, 0, none⟩)) l rest w
theorem At.lt {T : TypeId} {B b : Nat} {p : Value} {l : List UInt8} {rest : List Value} {w : World} (h : At T B b p l rest w) : b < w.heap.size := by
  obtain ⟨_, _, v, hb, _⟩ := h
  exact lt_of_heap hb
theorem At.cell {T : TypeId} {B b : Nat} {p : Value} {l : List UInt8} {rest : List Value} {w : World} (h : At T B b p l rest w) : w.cell? ⟨b, 0, none⟩ = some p := by
  obtain ⟨_, _, v, hb, _⟩ := h
  rw [cell_of hb]
  rfl
theorem At.used {T : TypeId} {B b : Nat} {p : Value} {l : List UInt8} {rest : List Value} {w : World} (h : At T B b p l rest w) (q : Value) : At T B b q l rest (w.setCell ⟨b, 0, none⟩ q) := by
  obtain ⟨hB, hw, v, hb, hown, hne⟩ := h
  refine ⟨hB, by simpa [World.setCell] using hw, v, ?_, ?_, hne⟩
  · have := set_of hb 0 q
    simpa using this
  · exact hown.kept (row := some b) ⟨rfl, rfl, rfl, by simp [World.setCell], fun k _ hk => Below.heap_setCell _ _ _ _ (fun e => hk (by simp [e]))⟩ (Or.inr hne)
theorem At.kept {T : TypeId} {B b : Nat} {p : Value} {l : List UInt8} {rest : List Value} {w w' : World} (h : At T B b p l rest w) (k : Below w.heap.size w w') : At T B b p l rest w' := by
  have hlt := h.lt
  obtain ⟨hB, hw, v, hb, hown, hne⟩ := h
  refine ⟨hB, Nat.le_trans hw k.size, v, (k.block b hlt).trans hb, hown.kept (row := none) ⟨k.os, k.tape, k.output, k.size, fun i hi _ => k.block i hi⟩ ?_, hne⟩
  cases hv : v.ownBlock with
  | none => exact .inl rfl
  | some g => exact .inr (by simp)
theorem Emb.kept {T : TypeId} {B b : Nat} {l : List UInt8} {rest : List Value} {w w' : World} (h : Emb T B b l rest w) (k : Below w.heap.size w w') : Emb T B b l rest w' := h.imp (fun h => h.kept k) (fun h => h.kept k)
theorem Emb.lt {T : TypeId} {B b : Nat} {l : List UInt8} {rest : List Value} {w : World} (h : Emb T B b l rest w) : B ≤ b ∧ B ≤ w.heap.size ∧ b < w.heap.size := h.elim (fun h => ⟨h.1, h.2.1, h.lt⟩) (fun h => ⟨h.1, h.2.1, h.lt⟩)
/-- Another cell of the block is written. -/
theorem At.rest {T : TypeId} {B b i : Nat} {p x : Value} {l : List UInt8} {rest : List Value} {w : World} (h : At T B b p l rest w) : At T B b p l (rest.set i x) (w.setCell ⟨b, i + 2, none⟩ x) := by
  obtain ⟨hB, hw, v, hb, hown, hne⟩ := h
  refine ⟨hB, by simpa [World.setCell] using hw, v, ?_, ?_, hne⟩
  · have := set_of hb (i + 2) x
    simpa using this
  · exact hown.kept (row := some b) ⟨rfl, rfl, rfl, by simp [World.setCell], fun k _ hk => Below.heap_setCell _ _ _ _ (fun e => hk (by simp [e]))⟩ (Or.inr hne)
theorem Emb.rest {T : TypeId} {B b i : Nat} {x : Value} {l : List UInt8} {rest : List Value} {w : World} (h : Emb T B b l rest w) : Emb T B b l (rest.set i x) (w.setCell ⟨b, i + 2, none⟩ x) := h.imp At.rest At.rest
theorem Emb.cell {T : TypeId} {B b i : Nat} {l : List UInt8} {rest : List Value} {w : World} (h : Emb T B b l rest w) : w.cell? ⟨b, i + 2, none⟩ = rest[i]? := by
  rcases h with h | h
  all_goals
    obtain ⟨_, _, v, hb, _⟩ := h
    rw [cell_of hb]
    simp
theorem Emb.free {T : TypeId} {B b : Nat} {l : List UInt8} {rest : List Value} {w : World} (h : Emb T B b l rest w) (i : Nat) : w.frozen? ⟨b, i, none⟩ = false := by
  rcases h with h | h
  all_goals
    obtain ⟨_, _, v, hb, _⟩ := h
    exact free_of hb i
theorem Emb.new {T : TypeId} (w : World) (rest : List Value) : Emb T w.heap.size w.heap.size [] rest (w.alloc (.cells (.pointer none :: .slice none 0 0 :: rest).toArray T)) :=
  .inl ⟨Nat.le_refl _, by simp, _, World.alloc_heap_new w _, World.ownsRow_nil _ _ _ _, by simp [Value.ownBlock]⟩
/-- What a builder's calls leave: all below B, and of what lies above each row of cells that are no bytes, but the builder's own block. -/
def Turn (B b : Nat) (w w' : World) : Prop := Below B w w' ∧ ∀ k cs T fr, k ≠ b → T ≠ 5 → w.heap[k]? = some (.cells cs T fr) → w'.heap[k]? = some (.cells cs T fr)
theorem Turn.refl (B b : Nat) (w : World) : Turn B b w w := ⟨Below.refl _ _, fun _ _ _ _ _ _ h => h⟩
theorem Turn.trans {B b : Nat} {w w1 w2 : World} (h : Turn B b w w1) (k : Turn B b w1 w2) : Turn B b w w2 := ⟨h.1.trans k.1, fun i cs T fr h1 h2 h3 => k.2 i cs T fr h1 h2 (h.2 i cs T fr h1 h2 h3)⟩
theorem Turn.of_below {B b : Nat} {w w' : World} (h : Below w.heap.size w w') (hB : B ≤ w.heap.size) : Turn B b w w' := ⟨h.mono hB, fun i _ _ _ _ _ h3 => (h.block i (lt_of_heap h3)).trans h3⟩
theorem Turn.set {B b : Nat} {w w' : World} (h : Turn B b w w') (hB : B ≤ b) (i : Nat) (v : Value) : Turn B b w (w'.setCell ⟨b, i, none⟩ v) :=
  ⟨h.1.setCell (p := ⟨b, i, none⟩) hB v, fun k cs T fr h1 h2 h3 => (Below.heap_setCell _ _ _ _ (fun e => h1 e)).trans (h.2 k cs T fr h1 h2 h3)⟩
theorem Turn.grown {B b n : Nat} {w w' w2 : World} {v : Value} {xs : List Value} (h : Turn B b w w') (hB : B ≤ w'.heap.size) (hown : w'.ownsRow B 5 1 v n xs) (hg : w'.grownBy w2 v.ownBlock) : Turn B b w w2 :=
  ⟨h.1.grown hg hB (fun k hk => (hown.lt k hk).1), fun k cs T fr h1 h2 h3 => by
    have h4 := h.2 k cs T fr h1 h2 h3
    exact (hg.block k (lt_of_heap h4) (fun e => Lib.ownBlock_ne hown h4 h2 e.symm)).trans h4⟩
set_option maxHeartbeats 1000000 in
set_option maxRecDepth 100000 in
theorem check_any {T : TypeId} {B b : Nat} {l : List UInt8} {rest : List Value} {w : World} (hT : Lies T (rest.length + 2)) (h : Emb T B b l rest w) :
    Calls Tryz.prog 139 #[.pointer (some ⟨b, 0, none⟩)] w fun e w' => e = .returned (.tuple #[]) ∧ At T B b (.pointer (some ⟨b, 0, none⟩)) l rest w' ∧ Turn B b w w' := by
  obtain ⟨j, hj, hjs⟩ := Option.map_eq_some_iff.1 sizeB
  rcases h with h | h
  · have h0 := h.cell
    have hsh : w.shape? b = some (T, rest.length + 2) := by
      obtain ⟨_, _, v, hb, _⟩ := h
      simp [World.shape?, hb]
    have hfz : w.frozen? ⟨b, 0, none⟩ = false := by
      obtain ⟨_, _, v, hb, _⟩ := h
      exact free_of hb 0
    have hto : (convert 59 182 (.pointer (some ⟨b, 0, none⟩))).run Tryz.prog w = .ok (.pointer (some ⟨b, 0, none⟩)) w := Lib.run_to_unsafe w ⟨b, 0, none⟩ Tryz.underlying59 Tryz.underlying182 hj (by rw [hjs]; decide) hsh (by show 0 < _; omega)
    have hfrom : (convert 182 59 (.pointer (some ⟨b, 0, none⟩))).run Tryz.prog w = .ok (.pointer (some ⟨b, 0, none⟩)) w := Lib.run_from_unsafe w ⟨b, 0, none⟩ Tryz.underlying182 Tryz.underlying59 hj hsh hT.1
    have hfin := h.used (.pointer (some ⟨b, 0, none⟩))
    have hbl : Turn B b w (w.setCell ⟨b, 0, none⟩ (.pointer (some ⟨b, 0, none⟩))) := (Turn.refl B b w).set h.1 _ _
    have HF := Lib.hid (And.intro hfin hbl)
    clear hfin hbl h
    go_enter Tryz.func139, Tryz.ntmps139
    go_wp2
    rw [run_callFunc_extern Tryz.func165 (by kernel_rfl) (by kernel_rfl) (by kernel_rfl) (e := Extern.AbiNoEscape.same) (by kernel_rfl)]
    rw [Lib.run_noEscape]
    simp only [Result.andThen]
    rw [Oper.upon_value]
    go_wp2
    go_end0
    exact ⟨rfl, HF.out.1, HF.out.2⟩
  · have h0 := h.cell
    have heq := fun wx => Lib.run_neq_ptr_same wx (⟨b, 0, none⟩ : Addr) Tryz.underlying59 hj
    have HF := Lib.hid h
    clear h
    go_enter Tryz.func139, Tryz.ntmps139
    go_wp2
    go_end0
    exact ⟨rfl, HF.out, Turn.refl B b _⟩
/-- What a store of a longer row leaves. -/
theorem At.put {T : TypeId} {B b : Nat} {p v v' : Value} {m : List UInt8} {rest : List Value} {w : World} (hT : T ≠ 5) (hB : B ≤ b) (hw : B ≤ w.heap.size) (hb : w.heap[b]? = some (.cells (p :: v :: rest).toArray T (0, 0))) (hown : w.ownsRow B 5 1 v' m.length (Lib.byteCells m)) : At T B b p m rest (w.setCell ⟨b, 1, none⟩ v') := by
  have hne := Lib.ownBlock_ne hown hb hT
  refine ⟨hB, by simpa [World.setCell] using hw, v', ?_, ?_, hne⟩
  · have := set_of hb 1 v'
    simpa using this
  · exact hown.kept (row := some b) ⟨rfl, rfl, rfl, by simp [World.setCell], fun k _ hk => Below.heap_setCell _ _ _ _ (fun e => hk (by simp [e]))⟩ (Or.inr hne)
theorem cells_app (l m : List UInt8) : Lib.byteCells l ++ Lib.byteCells m = Lib.byteCells (l ++ m) := by simp [Lib.byteCells]
set_option maxHeartbeats 2000000 in
set_option maxRecDepth 100000 in
theorem str_any {T : TypeId} {B b : Nat} {l m : List UInt8} {rest : List Value} {w : World} (hT : Lies T (rest.length + 2)) (h : Emb T B b l rest w) (hlen : l.length + m.length ≤ 140737488355328) :
    Calls Tryz.prog 108 #[.pointer (some ⟨b, 0, none⟩), .string (txt m)] w fun e w' => e = .returned (.tuple #[.int .i64 (m.length : Int), .nilIface]) ∧ At T B b (.pointer (some ⟨b, 0, none⟩)) (l ++ m) rest w' ∧ Turn B b w w' := by
  have hs := txt_size m
  obtain ⟨i0, hi, hz0, hz1, hz2⟩ := info_parts infoByte
  go_enter Tryz.func108, Tryz.ntmps108
  go_wp2_with fail
  refine (check_any hT h).mono ?_
  rintro e w1 ⟨rfl, h1, hb1⟩
  obtain ⟨hB, hw1, v, hbk, hown, hne⟩ := h1
  have c0 : w1.cell? ⟨b, 0, none⟩ = some (.pointer (some ⟨b, 0, none⟩)) := by rw [cell_of hbk]; rfl
  have c1 : w1.cell? ⟨b, 1, none⟩ = some v := by rw [cell_of hbk]; rfl
  go_wp2_with (at_builtin; refine Lib.wpList_append_own_string _ rfl _ _ 60 9 rfl B 5 i0 Tryz.underlying60 Tryz.underlying9 hi hz0 hz1 hz2 _ _ _ rfl hown (txt m) rfl ?c3 ?c4 ?c5 ?_)
  case c3 => unfold maxLen; omega
  case c4 => omega
  case c5 => exact hw1
  intro v' w2 hown' hgrow _
  have hlt := lt_of_heap hbk
  have hb2 : w2.heap[b]? = some (.cells (.pointer (some ⟨b, 0, none⟩) :: v :: rest).toArray T (0, 0)) := by
    rw [hgrow.block b hlt (fun e => hne e.symm)]
    exact hbk
  have d1 : w2.cell? ⟨b, 1, none⟩ = some v := by rw [cell_of hb2]; rfl
  have f1 : w2.frozen? ⟨b, 1, none⟩ = false := free_of hb2 1
  obtain ⟨ao, n', cap, rfl⟩ : ∃ ao n' cap, v' = .slice ao n' cap := by
    rcases hown'.2 with ⟨hv, _⟩ | ⟨g, cap, cur, hv, _⟩
    · exact ⟨_, _, _, hv⟩
    · exact ⟨_, _, _, hv⟩
  have hown2 : w2.ownsRow B 5 1 (.slice ao n' cap) (l ++ m).length (Lib.byteCells (l ++ m)) := by
    rw [← cells_app, List.length_append]
    have e : Lib.strCells (txt m) = Lib.byteCells m := rfl
    rw [e] at hown'
    exact hown'
  have hfin := At.put hT.2 hB (Nat.le_trans hw1 hgrow.size) hb2 hown2
  have hbl : Turn B b w (w2.setCell ⟨b, 1, none⟩ (.slice ao n' cap)) := (hb1.grown hw1 hown hgrow).set hB _ _
  have HF := Lib.hid (And.intro hfin hbl)
  clear hfin hbl hown2 hown' hown hgrow hb2 hbk
  go_wp2
  go_ret2
  exact ⟨rfl, HF.out.1, HF.out.2⟩
set_option maxHeartbeats 2000000 in
set_option maxRecDepth 100000 in
theorem byte_any {T : TypeId} {B b : Nat} {l : List UInt8} {c : UInt8} {x : Int} {rest : List Value} {w : World} (hT : Lies T (rest.length + 2)) (h : Emb T B b l rest w) (hlen : l.length + 1 ≤ 140737488355328) (hx : x = (c.toNat : Int)) :
    Calls Tryz.prog 107 #[.pointer (some ⟨b, 0, none⟩), .int .u8 x] w fun e w' => e = .returned .nilIface ∧ At T B b (.pointer (some ⟨b, 0, none⟩)) (l ++ [c]) rest w' ∧ Turn B b w w' := by
  subst hx
  obtain ⟨i0, hi, hz0, hz1, hz2⟩ := info_parts infoByte
  go_enter Tryz.func107, Tryz.ntmps107
  go_wp2_with fail
  refine (check_any hT h).mono ?_
  rintro e w1 ⟨rfl, h1, hb1⟩
  obtain ⟨hB, hw1, v, hbk, hown, hne⟩ := h1
  have c0 : w1.cell? ⟨b, 0, none⟩ = some (.pointer (some ⟨b, 0, none⟩)) := by rw [cell_of hbk]; rfl
  have c1 : w1.cell? ⟨b, 1, none⟩ = some v := by rw [cell_of hbk]; rfl
  go_wp2_with (at_builtin; refine wpList_append_own _ rfl _ _ 60 rfl B 5 i0 (.int .u8 0) 1 1 Tryz.underlying60 hi hz0 hz1 hz2 rfl (by decide) _ _ _ rfl (hown.alloc _) ⟨w1.heap.size, 0, none⟩ 1 1 [.int .u8 c.toNat] rfl rfl ?c1 ?c2 ?c3 ?c4 ?c5 ?_)
  case c1 =>
    intro j u hj
    match j, hj with
    | 0, hj => simp at hj; subst hj; simp [Addr.add]
  case c2 => intro u hu; simp at hu; subst hu; rfl
  case c3 => unfold maxLen; omega
  case c4 => omega
  case c5 => simp; omega
  intro v' w2 hown' hgrow _
  have hlt := lt_of_heap hbk
  have hb2 : w2.heap[b]? = some (.cells (.pointer (some ⟨b, 0, none⟩) :: v :: rest).toArray T (0, 0)) := by
    rw [hgrow.block b (by simp; omega) (fun e => hne e.symm), Lib.alloc_old w1 _ b hlt]
    exact hbk
  have d1 : w2.cell? ⟨b, 1, none⟩ = some v := by rw [cell_of hb2]; rfl
  have f1 : w2.frozen? ⟨b, 1, none⟩ = false := free_of hb2 1
  obtain ⟨ao, n', cap, rfl⟩ : ∃ ao n' cap, v' = .slice ao n' cap := by
    rcases hown'.2 with ⟨hv, _⟩ | ⟨g, cap, cur, hv, _⟩
    · exact ⟨_, _, _, hv⟩
    · exact ⟨_, _, _, hv⟩
  have hown2 : w2.ownsRow B 5 1 (.slice ao n' cap) (l ++ [c]).length (Lib.byteCells (l ++ [c])) := by
    rw [← cells_app, List.length_append]
    exact hown'
  have hsz : w1.heap.size ≤ w2.heap.size := by
    have := hgrow.size
    simp at this
    omega
  have hfin := At.put hT.2 hB (Nat.le_trans hw1 hsz) hb2 hown2
  have hbl : Turn B b w (w2.setCell ⟨b, 1, none⟩ (.slice ao n' cap)) := ((hb1.trans (.of_below ((Below.refl _ w1).alloc (Nat.le_refl _) (.cells #[.int .u8 c.toNat] 5)) hw1)).grown (by simp; omega) (hown.alloc _) hgrow).set hB _ _
  have HF := Lib.hid (And.intro hfin hbl)
  clear hfin hbl hown2 hown' hown hgrow hb2 hbk
  go_wp2
  go_ret
  exact ⟨rfl, HF.out.1, HF.out.2⟩
set_option maxHeartbeats 1000000 in
set_option maxRecDepth 100000 in
/-- The text, of a builder that holds a byte. -/
theorem string_any {T : TypeId} {B b : Nat} {l : List UInt8} {rest : List Value} {w : World} (h : Emb T B b l rest w) (h0 : l ≠ []) :
    Calls Tryz.prog 30 #[.pointer (some ⟨b, 0, none⟩)] w fun e w' => e = .returned (.string (txt l)) ∧ Below B w w' := by
  obtain ⟨p, hB, hBw, v, hbk, hown, hne⟩ : ∃ p, At T B b p l rest w := h.elim (fun h => ⟨_, h⟩) (fun h => ⟨_, h⟩)
  have hl0 : l.length ≠ 0 := by simpa using h0
  obtain ⟨g, cap, cur, rfl, hbg, hg, hnc, hcm, hcs, htake⟩ : ∃ g cap cur, v = .slice (some ⟨g, 0, none⟩) l.length cap ∧ B ≤ g ∧ w.heap[g]? = some (.cells cur 5 (0, 0)) ∧ l.length ≤ cap ∧ cap ≤ maxLen ∧ cur.size = cap * 1 ∧ cur.toList.take (l.length * 1) = Lib.byteCells l := by
    rcases hown.2 with ⟨_, hz⟩ | ⟨g, cap, cur, hv, r⟩
    · exact absurd hz hl0
    · exact ⟨g, cap, cur, hv, r⟩
  have c1 : w.drew.cell? ⟨b, 1, none⟩ = some (.slice (some ⟨g, 0, none⟩) l.length cap) := by
    have : w.drew.heap[b]? = some (.cells (p :: .slice (some ⟨g, 0, none⟩) l.length cap :: rest).toArray T (0, 0)) := hbk
    rw [cell_of this]; rfl
  have hSD : (Builtin.unsafeSliceData_ #[60] 87 #[.slice (some ⟨g, 0, none⟩) l.length cap]).run Tryz.prog w.drew = .ok (.pointer (some ⟨g, 0, none⟩)) w.drew :=
    Lib.run_unsafeSliceData_row _ _ _ _ _ _ (by omega)
  have hUS : (Builtin.unsafeString_ #[87, 3] 9 #[.pointer (some ⟨g, 0, none⟩), .int .i64 l.length]).run Tryz.prog w.drew = .ok (.string ⟨l.toArray⟩) (w.drew.freeze ⟨g, 0, none⟩ l.length) := by
    refine Lib.run_unsafeString_row w.drew 87 3 9 5 Tryz.underlying87 cellsByte g cur.size (by have hg' : w.drew.heap[g]? = some (.cells cur 5 (0, 0)) := hg; simp [World.shape?, hg']) l h0 (by omega) (by unfold maxLen at hcm; omega) ?_
    intro j x hx
    exact hown.cells (g := g) rfl j (.int .u8 x.toNat) (by simp [Lib.byteCells, hx])
  have HB := Lib.hid (Lib.below_freeze (Below.drew (Below.refl B w)) (p := ⟨g, 0, none⟩) hbg l.length)
  have mixed : Tryz.prog.follows .mixedOrders = true := by kernel_rfl
  clear hown htake hg hbk hne hBw
  go_enter Tryz.func30, Tryz.ntmps30
  go_wp2
  go_region_o
  all_goals (go_wp2; go_ret; exact ⟨rfl, HB.out⟩)
end Go.Proofs.YtlfbnfphocpgeaaGreatDoor.Emb
namespace Go.Proofs.YtlfbnfphocpgeaaGreatDoor.Tre
open Go.RowKit Kit Txt
open Num (Dec zero)
/-- A text stands there, and may be written over. -/
def StrAt (m : Nat) (w : World) (g i : Nat) : Prop := ∃ t : ByteArray, w.cell? ⟨g, i, none⟩ = some (.string t) ∧ t.size ≤ m ∧ w.frozen? ⟨g, i, none⟩ = false
/-- A slice of n such texts, in blocks of that kind. -/
def ShpKs (D : Nat → Prop) (m : Nat) (w : World) (u : Value) (n : Nat) : Prop :=
  ∃ a c, u = .slice a n c ∧ n ≤ c ∧ c ≤ 9223372036854775807 ∧ (n = 0 ∨ ∃ g off, a = some ⟨g, off, none⟩ ∧ D g ∧ ∀ i, i < n → StrAt m w g (off + i))
mutual
/-- A value's shape at a place. -/
def ShpAt (D : Nat → Prop) (m : Nat) (w : World) (g off : Nat) : Val → Prop
  | ⟨_, _, _, _, ks, vs⟩ => StrAt m w g (off + 5) ∧ (∃ u, w.cell? ⟨g, off + 6, none⟩ = some u ∧ ShpKs D m w u ks.length) ∧
      ∃ a c, w.cell? ⟨g, off + 7, none⟩ = some (.slice a vs.length c) ∧ vs.length ≤ c ∧ c ≤ 9223372036854775807 ∧ (vs = [] ∨ ∃ g' off', a = some ⟨g', off', none⟩ ∧ D g' ∧ ShpsAt D m w g' off' vs)
def ShpsAt (D : Nat → Prop) (m : Nat) (w : World) (g off : Nat) : List Val → Prop
  | [] => True
  | v :: r => ShpAt D m w g off v ∧ ShpsAt D m w g (off + 8) r
end
theorem ShpsAt.at {D : Nat → Prop} {m : Nat} {w : World} {g : Nat} : ∀ {vs : List Val} {off : Nat}, ShpsAt D m w g off vs → ∀ {i : Nat} {v : Val}, vs[i]? = some v → ShpAt D m w g (off + i * 8) v
  | [], _, _, _, _, hi => by simp at hi
  | x :: r, off, h, 0, v, hi => by
    rw [ShpsAt] at h
    simp at hi
    subst hi
    simpa using h.1
  | x :: r, off, h, i + 1, v, hi => by
    rw [ShpsAt] at h
    have := ShpsAt.at h.2 (i := i) (v := v) (by simpa using hi)
    rwa [show off + (i + 1) * 8 = off + 8 + i * 8 by omega]
/-- Texts alone, of blocks of that kind, have grown, each by k bytes at most. -/
structure StrStep (D : Nat → Prop) (k : Nat) (w w' : World) : Prop where
  os : w'.os = w.os
  tape : w'.tape = w.tape
  output : w'.output = w.output
  size : w'.heap.size = w.heap.size
  block : ∀ g, ¬ D g → w'.heap[g]? = w.heap[g]?
  cell : ∀ g i, w'.cell? ⟨g, i, none⟩ = w.cell? ⟨g, i, none⟩ ∨ ∃ s t : ByteArray, w.cell? ⟨g, i, none⟩ = some (.string s) ∧ w'.cell? ⟨g, i, none⟩ = some (.string t) ∧ t.size ≤ s.size + k
  frozen : ∀ g i, w'.frozen? ⟨g, i, none⟩ = w.frozen? ⟨g, i, none⟩
theorem StrStep.refl (D : Nat → Prop) (w : World) : StrStep D 0 w w := ⟨rfl, rfl, rfl, rfl, fun _ _ => rfl, fun _ _ => .inl rfl, fun _ _ => rfl⟩
theorem StrStep.trans {D : Nat → Prop} {k l : Nat} {a b c : World} (h : StrStep D k a b) (i : StrStep D l b c) : StrStep D (k + l) a c := by
  refine ⟨i.os.trans h.os, i.tape.trans h.tape, i.output.trans h.output, i.size.trans h.size, fun g hg => (i.block g hg).trans (h.block g hg), fun g j => ?_, fun g j => (i.frozen g j).trans (h.frozen g j)⟩
  rcases h.cell g j with e | ⟨s, t, e1, e2, e3⟩
  · rcases i.cell g j with f | ⟨s', t', f1, f2, f3⟩
    · exact .inl (f.trans e)
    · exact .inr ⟨s', t', by rw [← e]; exact f1, f2, by omega⟩
  · rcases i.cell g j with f | ⟨s', t', f1, f2, f3⟩
    · exact .inr ⟨s, t, e1, by rw [f]; exact e2, by omega⟩
    · rw [f1] at e2
      injection e2 with e2
      injection e2 with e2
      exact .inr ⟨s, t', e1, f2, by rw [e2] at f3; omega⟩
theorem StrStep.mono {D : Nat → Prop} {k l : Nat} {a b : World} (h : StrStep D k a b) (hk : k ≤ l) : StrStep D l a b :=
  ⟨h.os, h.tape, h.output, h.size, h.block, fun g i => (h.cell g i).imp id fun ⟨s, t, e1, e2, e3⟩ => ⟨s, t, e1, e2, by omega⟩, h.frozen⟩
theorem StrStep.keep {D : Nat → Prop} {k : Nat} {a b : World} (h : StrStep D k a b) {g i : Nat} {v : Value} (hc : a.cell? ⟨g, i, none⟩ = some v) (hv : ∀ t, v ≠ .string t) : b.cell? ⟨g, i, none⟩ = some v := by
  rcases h.cell g i with e | ⟨s, t, e1, e2, e3⟩
  · rw [e]
    exact hc
  · rw [hc] at e1
    injection e1 with e1
    exact absurd e1 (hv s)
theorem StrStep.str {D : Nat → Prop} {k m : Nat} {a b : World} (h : StrStep D k a b) {g i : Nat} (hs : StrAt m a g i) : StrAt (m + k) b g i := by
  obtain ⟨t, h1, h2, h3⟩ := hs
  rcases h.cell g i with e | ⟨s, t', e1, e2, e3⟩
  · exact ⟨t, by rw [e]; exact h1, by omega, by rw [h.frozen]; exact h3⟩
  · rw [h1] at e1
    injection e1 with e1
    injection e1 with e1
    exact ⟨t', e2, by rw [← e1] at e3; omega, by rw [h.frozen]; exact h3⟩
theorem StrStep.ks {D : Nat → Prop} {k m : Nat} {a b : World} (h : StrStep D k a b) {u : Value} {n : Nat} (hs : ShpKs D m a u n) : ShpKs D (m + k) b u n := by
  obtain ⟨p, c, hu, h1, h2, h3⟩ := hs
  refine ⟨p, c, hu, h1, h2, h3.imp id ?_⟩
  rintro ⟨g, off, hp, hD, hx⟩
  exact ⟨g, off, hp, hD, fun i hi => h.str (hx i hi)⟩
/-- One text is written over by one of one byte more. -/
theorem StrStep.one {D : Nat → Prop} {w : World} {g i : Nat} {s t : ByteArray} (hD : D g) (hc : w.cell? ⟨g, i, none⟩ = some (.string s)) (ht : t.size ≤ s.size + 1) : StrStep D 1 w (w.setCell ⟨g, i, none⟩ (.string t)) := by
  refine ⟨rfl, rfl, rfl, by simp [World.setCell], fun k hk => ?_, fun k j => ?_, fun k j => World.frozen?_setCell _ _ _ _⟩
  · show (w.heap.modify g _)[k]? = _
    rw [Array.getElem?_modify]
    have : g ≠ k := fun e => hk (e ▸ hD)
    simp [this]
  · by_cases e : (⟨g, i, none⟩ : Addr) = ⟨k, j, none⟩
    · rw [← e]
      exact .inr ⟨s, t, hc, World.cell?_setCell_same _ _ _ hc, ht⟩
    · exact .inl (World.cell?_setCell_other _ _ _ _ e)
theorem StrAt.keep {m : Nat} {w w' : World} {g i : Nat} (h : StrAt m w g i) (hk : w'.heap[g]? = w.heap[g]?) : StrAt m w' g i := by
  obtain ⟨t, h1, h2, h3⟩ := h
  refine ⟨t, ?_, h2, ?_⟩
  · rw [← h1]
    unfold World.cell?
    rw [hk]
  · rw [← h3]
    unfold World.frozen?
    rw [hk]
theorem cell_keep {w w' : World} {g i : Nat} {v : Value} (h : w.cell? ⟨g, i, none⟩ = some v) (hk : w'.heap[g]? = w.heap[g]?) : w'.cell? ⟨g, i, none⟩ = some v := by
  rw [← h]
  unfold World.cell?
  rw [hk]
theorem ShpKs.keep {D : Nat → Prop} {m : Nat} {w w' : World} {u : Value} {n : Nat} (h : ShpKs D m w u n) (hk : ∀ g, D g → w'.heap[g]? = w.heap[g]?) : ShpKs D m w' u n := by
  obtain ⟨a, c, hu, h1, h2, h3⟩ := h
  refine ⟨a, c, hu, h1, h2, h3.imp id ?_⟩
  rintro ⟨g, off, ha, hD, hx⟩
  exact ⟨g, off, ha, hD, fun i hi => (hx i hi).keep (hk g hD)⟩
mutual
theorem ShpAt.keep {D : Nat → Prop} {m : Nat} {w w' : World} (hk : ∀ g, D g → w'.heap[g]? = w.heap[g]?) : ∀ (v : Val) {g off : Nat}, D g → ShpAt D m w g off v → ShpAt D m w' g off v
  | ⟨_, _, _, _, ks, vs⟩, g, off, hg, h => by
    rw [ShpAt] at h ⊢
    obtain ⟨h5, ⟨u, h6, hks⟩, a, c, h7, hl1, hl2, hx⟩ := h
    refine ⟨h5.keep (hk g hg), ⟨u, cell_keep h6 (hk g hg), hks.keep hk⟩, a, c, cell_keep h7 (hk g hg), hl1, hl2, hx.imp id ?_⟩
    rintro ⟨g', off', ha, hD, hv⟩
    exact ⟨g', off', ha, hD, ShpsAt.keep hk vs hD hv⟩
theorem ShpsAt.keep {D : Nat → Prop} {m : Nat} {w w' : World} (hk : ∀ g, D g → w'.heap[g]? = w.heap[g]?) : ∀ (vs : List Val) {g off : Nat}, D g → ShpsAt D m w g off vs → ShpsAt D m w' g off vs
  | [], _, _, _, _ => by rw [ShpsAt]; trivial
  | v :: r, g, off, hg, h => by
    rw [ShpsAt] at h ⊢
    exact ⟨ShpAt.keep hk v hg h.1, ShpsAt.keep hk r hg h.2⟩
end
end Go.Proofs.YtlfbnfphocpgeaaGreatDoor.Tre
namespace Go.Proofs.YtlfbnfphocpgeaaGreatDoor.Tre
open Go.RowKit Kit Txt
open Num (Dec zero)
theorem infoSpot : (Tryz.prog.info? 48).map (fun i => (i.zero, i.size, i.bytes)) = some (some (.agg #[.int .i64 0, .int .i64 0, .bool false, .bool false, .string ⟨#[]⟩, .int .i64 0, .string ⟨#[]⟩, .slice none 0 0, .slice none 0 0]), 9, 120) := by kernel_rfl
def zeroS : Value := .agg #[.int .i64 0, .int .i64 0, .bool false, .bool false, .string ⟨#[]⟩, .int .i64 0, .string ⟨#[]⟩, .slice none 0 0, .slice none 0 0]
theorem own_mono {w : World} {b b' : Nat} {e : TypeId} {z n : Nat} {v : Value} {xs : List Value} (h : w.ownsRow b e z v n xs) (hb : b' ≤ b) : w.ownsRow b' e z v n xs :=
  ⟨h.1, h.2.imp id fun ⟨g, cap, cur, h1, h2, h3⟩ => ⟨g, cap, cur, h1, Nat.le_trans hb h2, h3⟩⟩
theorem own_under {w w' : World} {b : Nat} {e : TypeId} {z n : Nat} {v : Value} {xs : List Value} (h : w.ownsRow b e z v n xs) (k : Below w.heap.size w w') : w'.ownsRow b e z v n xs := by
  refine World.ownsRow.kept h (row := none) ⟨k.os, k.tape, k.output, k.size, fun i hi _ => k.block i hi⟩ ?_
  cases v.ownBlock with
  | none => exact .inl rfl
  | some g => exact .inr (by simp)
/-- The cells of a row that isn't empty. -/
theorem own_cells {w : World} {b : Nat} {e : TypeId} {z n : Nat} {v : Value} {xs : List Value} (h : w.ownsRow b e z v n xs) (hn : 0 < n) : ∃ g c, v = .slice (some ⟨g, 0, none⟩) n c ∧ b ≤ g ∧ g < w.heap.size ∧ ∀ j u, xs[j]? = some u → w.cell? ((⟨g, 0, none⟩ : Addr).add j) = some u := by
  rcases h.2 with ⟨_, h0⟩ | ⟨g, cap, cur, rfl, hg, hb, _, _, _, htk⟩
  · omega
  · refine ⟨g, cap, rfl, hg, lt_of_heap hb, fun j u hj => ?_⟩
    rw [← htk, List.getElem?_take] at hj
    split at hj
    · rw [addr_at, cell_of hb, ← Array.getElem?_toList]
      exact hj
    · cases hj
/-- The cells of values and how deep they lie, as they are held in a world, in blocks below B. -/
def Spots (B : Nat) (w : World) (css : List (List Value)) (l : List (Nat × Val)) : Prop :=
  css.length = l.length ∧ ∀ (i : Nat) (c : List Value) (x : Nat × Val), css[i]? = some c → l[i]? = some x → ∃ cs, c = .int .i64 (x.1 : Int) :: cs ∧ HoldP (· < B) w cs x.2
theorem Spots.keep {B : Nat} {w w' : World} {a : List (List Value)} {l : List (Nat × Val)} (h : Spots B w a l) (hz : w.heap.size ≤ w'.heap.size) (hk : ∀ g, g < B → g < w.heap.size → w'.heap[g]? = w.heap[g]?) : Spots B w' a l := by
  refine ⟨h.1, fun i c x h1 h2 => ?_⟩
  obtain ⟨cs, e, hc⟩ := h.2 i c x h1 h2
  exact ⟨cs, e, HoldP.keep hz hk _ hc⟩
theorem Spots.append {B : Nat} {w : World} {a b : List (List Value)} {l m : List (Nat × Val)} (h : Spots B w a l) (k : Spots B w b m) : Spots B w (a ++ b) (l ++ m) := by
  refine ⟨by rw [List.length_append, List.length_append, h.1, k.1], fun i c x h1 h2 => ?_⟩
  by_cases hi : i < a.length
  · rw [List.getElem?_append_left hi] at h1
    rw [List.getElem?_append_left (by rw [← h.1]; exact hi)] at h2
    exact h.2 i c x h1 h2
  · rw [List.getElem?_append_right (by omega)] at h1
    rw [List.getElem?_append_right (by rw [← h.1]; omega), ← h.1] at h2
    exact k.2 _ c x h1 h2
theorem Spots.sizes {B : Nat} {w : World} {css : List (List Value)} {l : List (Nat × Val)} (h : Spots B w css l) : (∀ c ∈ css, c.length = 9) ∧ ∀ c ∈ css, ∀ u ∈ c, u.oneCell' = true := by
  have hh : ∀ c ∈ css, ∃ (d : Int) (cs : List Value) (v : Val), c = .int .i64 d :: cs ∧ HoldP (· < B) w cs v := fun c hc => by
    obtain ⟨i, hi, e⟩ := List.mem_iff_getElem.1 hc
    obtain ⟨cs, h1, h2⟩ := h.2 i c (l[i]'(by rw [← h.1]; exact hi)) (by rw [List.getElem?_eq_getElem hi, e]) (List.getElem?_eq_getElem _)
    exact ⟨_, cs, _, h1, h2⟩
  constructor
  · intro c hc
    obtain ⟨d, cs, v, rfl, h2⟩ := hh c hc
    rw [List.length_cons, holdP_len h2]
  · intro c hc u hu
    obtain ⟨d, cs, v, rfl, h2⟩ := hh c hc
    rcases List.mem_cons.1 hu with rfl | hu
    · rfl
    · exact holdP_one h2 u hu
theorem flatten_len9 {α : Type} : ∀ {cs : List (List α)}, (∀ c ∈ cs, c.length = 9) → cs.flatten.length = cs.length * 9
  | [], _ => rfl
  | c :: r, h => by
    rw [List.flatten_cons, List.length_append, h c (by simp), flatten_len9 (fun x hx => h x (by simp [hx])), List.length_cons]
    omega
theorem walks_snoc (d : Nat) : ∀ (a : List Val) (v : Val), walks d (a ++ [v]) = walks d a ++ walk d v
  | [], v => by simp [walks]
  | x :: a, v => by rw [List.cons_append, walks, walks, walks_snoc d a v, List.append_assoc]
mutual
theorem walk_len : ∀ (v : Val) (d : Nat), (walk d v).length ≤ count v
  | ⟨k, i, n, s, ks, vs⟩, d => by
    rw [walk, count, List.length_cons]
    have := walks_len vs (d + 1)
    omega
theorem walks_len : ∀ (vs : List Val) (d : Nat), (walks d vs).length ≤ counts vs
  | [], _ => Nat.zero_le _
  | v :: r, d => by
    rw [walks, counts, List.length_append]
    have := walk_len v d
    have := walks_len r d
    omega
end
theorem HoldsP.at {X : Nat → Prop} {w : World} {g : Nat} : ∀ {vs : List Val} {off : Nat}, HoldsP X w g off vs → ∀ {i : Nat} {v : Val}, vs[i]? = some v → ∃ cs, At8 w g (off + i * 8) cs ∧ HoldP X w cs v
  | [], _, _, _, _, hi => by simp at hi
  | x :: r, off, h, 0, v, hi => by
    rw [HoldsP] at h
    simp at hi
    subst hi
    simpa using h.1
  | x :: r, off, h, i + 1, v, hi => by
    rw [HoldsP] at h
    have := HoldsP.at h.2 (i := i) (v := v) (by simpa using hi)
    rwa [show off + (i + 1) * 8 = off + 8 + i * 8 by omega]
theorem take_snoc {vs : List Val} {j : Nat} (h : j < vs.length) (d : Nat) : walks d (vs.take (j + 1)) = walks d (vs.take j) ++ walk d vs[j] := by
  rw [List.take_succ_eq_append_getElem h, walks_snoc]
theorem counts_take (vs : List Val) : ∀ j, counts (vs.take j) ≤ counts vs := by
  induction vs with
  | nil => intro j; simp
  | cons v r ih =>
    intro j
    cases j with
    | zero => exact Nat.zero_le _
    | succ j =>
      rw [List.take_succ_cons, counts, counts]
      have := ih j
      omega
/-- A value by its cells, all its memory in blocks below B. -/
def HoldU (B : Nat) (w : World) (u : Value) (v : Val) : Prop := ∃ cs : List Value, u = .agg cs.toArray ∧ HoldP (· < B) w cs v
theorem HoldU.of {w : World} {u : Value} {v : Val} (h : HoldV w u v) : HoldU w.heap.size w u v := by
  obtain ⟨cs, hu, hc⟩ := h
  exact ⟨cs, hu, HoldP.mono (fun g _ hlt => hlt) v (HoldP.of v hc)⟩
set_option maxRecDepth 100000 in
set_option maxHeartbeats 8000000 in
theorem rwalk_all : ∀ (v : Val) (w : World) (u : Value) (d B : Nat), d + count v < 1000000 → B ≤ w.heap.size → HoldU B w u v → Calls Tryz.prog 20 #[u, .int .i64 (d : Int)] w fun e w' =>
    (∃ y css, e = .returned y ∧ w'.ownsRow w.heap.size 48 9 y (walk d v).length css.flatten ∧ Spots B w' css (walk d v)) ∧ Below w.heap.size w w' := by
  refine ind1 fun v ih w u d B hc0 hBw h => ?_
  have hck := count_kids (v := v)
  have hself : ∃ cs : List Value, u = .agg cs.toArray ∧ HoldP (· < B) w cs v := h
  have hcv : ∀ j, (walks (d + 1) (v.kids.take j)).length + 1 ≤ count v := fun j => by
    obtain ⟨k, b, n, s, ks, vs⟩ := v
    have h1 := walks_len ((Val.mk k b n s ks vs).kids.take j) (d + 1)
    have h2 := counts_take (Val.mk k b n s ks vs).kids j
    rw [count]
    unfold Val.kids at *
    dsimp only at *
    omega
  have hwv : walk d v = (d, v) :: walks (d + 1) v.kids := by
    obtain ⟨k, b, n, s, ks, vs⟩ := v
    rw [walk]
    rfl
  rw [hwv]
  generalize count v = cv at *
  clear hwv
  obtain ⟨k, b, n, s, ks, vs⟩ := v
  obtain ⟨cs, rfl, hc⟩ := h
  have hc2 := hc
  rw [HoldP] at hc2
  obtain ⟨uk, a, c, rfl, hk, hcap, hmax, hv⟩ := hc2
  obtain ⟨pk, ck, rfl, -, -, -⟩ := hk
  unfold Val.kids at ih hck hcv ⊢
  dsimp only at ih hck hcv ⊢
  show Calls Tryz.prog 20 #[.agg #[.int .i64 k, .bool b, .bool n.neg, .string (txt n.dig), .int .i64 n.exp, .string (txt s), .slice pk ks.length ck, .slice a vs.length c], .int .i64 (d : Int)] w _
  have hA := World.alloc_heap_new w (.cells #[.int .i64 k, .bool b, .bool n.neg, .string (txt n.dig), .int .i64 n.exp, .string (txt s), .slice pk ks.length ck, .slice a vs.length c] 29)
  have bA : Below w.heap.size w (w.alloc (.cells #[.int .i64 k, .bool b, .bool n.neg, .string (txt n.dig), .int .i64 n.exp, .string (txt s), .slice pk ks.length ck, .slice a vs.length c] 29)) := (Below.refl _ w).alloc (Nat.le_refl _) _
  obtain ⟨i0, hi0, hz0, hz1, hz2⟩ := info_parts infoSpot
  obtain ⟨w1, hw1⟩ : ∃ w1, (w.alloc (.cells #[.int .i64 k, .bool b, .bool n.neg, .string (txt n.dig), .int .i64 n.exp, .string (txt s), .slice pk ks.length ck, .slice a vs.length c] 29)).alloc (.cells #[.int .i64 (d : Int), .int .i64 k, .bool b, .bool n.neg, .string (txt n.dig), .int .i64 n.exp, .string (txt s), .slice pk ks.length ck, .slice a vs.length c] 48) = w1 := ⟨_, rfl⟩
  have hz : w1.heap.size = w.heap.size + 2 := by rw [← hw1]; simp
  have hA1 : w1.heap[w.heap.size]? = some (.cells #[.int .i64 k, .bool b, .bool n.neg, .string (txt n.dig), .int .i64 n.exp, .string (txt s), .slice pk ks.length ck, .slice a vs.length c] 29 (0, 0)) := by rw [← hw1]; exact new_of hA _
  have hS1 : w1.heap[w.heap.size + 1]? = some (.cells #[.int .i64 (d : Int), .int .i64 k, .bool b, .bool n.neg, .string (txt n.dig), .int .i64 n.exp, .string (txt s), .slice pk ks.length ck, .slice a vs.length c] 48 (0, 0)) := by
    rw [← hw1]
    have := World.alloc_heap_new (w.alloc (.cells #[.int .i64 k, .bool b, .bool n.neg, .string (txt n.dig), .int .i64 n.exp, .string (txt s), .slice pk ks.length ck, .slice a vs.length c] 29)) (.cells #[.int .i64 (d : Int), .int .i64 k, .bool b, .bool n.neg, .string (txt n.dig), .int .i64 n.exp, .string (txt s), .slice pk ks.length ck, .slice a vs.length c] 48)
    rwa [World.size_alloc] at this
  have b1 : Below w.heap.size w w1 := by rw [← hw1]; exact bA.alloc (by simp) _
  have hown1 : w1.ownsRow (w.heap.size + 1) 48 9 (.slice (some ⟨w.heap.size + 1, 0, none⟩) 1 1) 1 [.int .i64 (d : Int), .int .i64 k, .bool b, .bool n.neg, .string (txt n.dig), .int .i64 n.exp, .string (txt s), .slice pk ks.length ck, .slice a vs.length c] := ⟨rfl, .inr ⟨w.heap.size + 1, 1, _, rfl, Nat.le_refl _, hS1, Nat.le_refl _, by decide, rfl, rfl⟩⟩
  have hc8 := hself
  obtain ⟨cs0, e0, hh0⟩ := hself
  have e0' : [.int .i64 k, .bool b, .bool n.neg, .string (txt n.dig), .int .i64 n.exp, .string (txt s), .slice pk ks.length ck, .slice a vs.length c] = cs0 := by
    have := congrArg (fun v : Value => match v with | .agg x => x.toList | _ => []) e0
    simpa [cellsV] using this
  subst e0'
  have hsp1 : Spots B w [[.int .i64 (d : Int), .int .i64 k, .bool b, .bool n.neg, .string (txt n.dig), .int .i64 n.exp, .string (txt s), .slice pk ks.length ck, .slice a vs.length c]] [(d, ⟨k, b, n, s, ks, vs⟩)] := ⟨rfl, fun i c x h1 h2 => by
    match i with
    | 0 =>
      simp at h1 h2
      subst h1; subst h2
      exact ⟨_, rfl, hh0⟩
    | i + 1 => simp at h1⟩
  have HW := Lib.hid hw1
  have HSP := Lib.hid hsp1
  clear hw1 hA bA hsp1 hc hc8 e0 hh0
  go_enter Tryz.func20, Tryz.ntmps20
  go_wp2_with fail
  rw [HW.out]
  go_loopw [5, 6] (fun x y wr => ∃ (j : Nat) (css : List (List Value)), j ≤ vs.length ∧ y = .int .i64 (j : Int) ∧ wr.ownsRow (w.heap.size + 1) 48 9 x (1 + (walks (d + 1) (vs.take j)).length) css.flatten ∧ Spots B wr css ((d, ⟨k, b, n, s, ks, vs⟩) :: walks (d + 1) (vs.take j)) ∧
      wr.heap[w.heap.size]? = some (.cells #[.int .i64 k, .bool b, .bool n.neg, .string (txt n.dig), .int .i64 n.exp, .string (txt s), .slice pk ks.length ck, .slice a vs.length c] 29 (0, 0)) ∧ Below w.heap.size w wr ∧ w.heap.size + 2 ≤ wr.heap.size) (fun _ y _ => vs.length - (intOf y).toNat)
  case atStart => exact ⟨0, [[.int .i64 (d : Int), .int .i64 k, .bool b, .bool n.neg, .string (txt n.dig), .int .i64 n.exp, .string (txt s), .slice pk ks.length ck, .slice a vs.length c]], Nat.zero_le _, rfl, by rw [List.take_zero, walks]; simpa using hown1, by rw [List.take_zero, walks]; exact HSP.out.keep b1.size (fun g hg hlt => b1.block g hlt), hA1, b1, by omega⟩
  case round =>
    clear hA1 hS1 b1 hz hown1 HW HSP
    obtain ⟨j, css, hj, rfl, hown, hsp, hA, bB, hz⟩ := hrel
    have HS := Lib.hid hsp
    clear hsp
    obtain ⟨-, -, -, -, -, -, -, p7⟩ := eight hA
    have hcvj := hcv j
    by_cases hlt : j < vs.length
    · have hlt' : (j : Int) < (vs.length : Int) := by omega
      have hcvj1 := hcv (j + 1)
      rcases hv with rfl | ⟨g, off, rfl, hgB, hg, hx⟩
      · exact absurd hlt (Nat.not_lt_zero _)
      obtain ⟨cx, hx8, hxx⟩ := hx.at (List.getElem?_eq_getElem hlt)
      have hcall := fun wx u (hz : B ≤ wx.heap.size) (h : HoldU B wx u (vs[j]'hlt)) => ih (vs[j]'hlt) (List.getElem_mem hlt) wx u (d + 1) B (by have := hck.2 _ (List.getElem_mem hlt); omega) hz h
      rw [take_snoc hlt, List.length_append] at hcvj1
      have hts := take_snoc hlt (d + 1)
      have hpos : 0 < (walk (d + 1) vs[j]).length := by
        cases hq : vs[j] with
        | mk k1 b1 n1 s1 ks1 vs1 =>
          rw [walk]
          simp
      generalize vs[j] = x at *
      have hx8' := hx8.below hg bB
      have hxx' := HoldP.keep bB.size (fun g _ hlt => bB.block g hlt) x hxx
      obtain ⟨k', b', n', s', ks', vs'⟩ := x
      have hh2 := hxx'
      rw [HoldP] at hh2
      obtain ⟨uk', a', c', rfl, -, -, -, -⟩ := hh2
      obtain ⟨d0, d1, d2, d3, d4, d5, d6, d7⟩ := hx8'.cells
      have hcall' := hcall wr (.agg #[.int .i64 k', .bool b', .bool n'.neg, .string (txt n'.dig), .int .i64 n'.exp, .string (txt s'), uk', .slice a' vs'.length c']) (by omega) ⟨_, rfl, hxx'⟩
      have wd : IntKind.i64.wrap ((d : Int) + 1) = (d : Int) + 1 := by simp only [IntKind.wrap, IntKind.signed, IntKind.bits]; simp; omega
      have wk : IntKind.i64.wrap ((j : Int) + 1) = (j : Int) + 1 := by simp only [IntKind.wrap, IntKind.signed, IntKind.bits]; simp; omega
      have ed : (d : Int) + 1 = ((d + 1 : Nat) : Int) := by omega
      have hgl := Nat.lt_of_lt_of_le hg bB.size
      have hal := lt_of_heap hA
      have HT := Lib.hid hts
      rw [← ed] at hcall'
      generalize walk (d + 1) ⟨k', b', n', s', ks', vs'⟩ = wl at *
      generalize walks (d + 1) (vs.take j) = pre at *
      clear hts ed hcall hxx' hx8' hxx hx8 ih hck hcv hx
      go_wp2_with fail
      refine hcall'.mono ?_
      rintro e w3 ⟨⟨y, css2, rfl, ho2, hs2⟩, k3⟩
      obtain ⟨g2, c2, rfl, hg2, hg2l, hcells⟩ := own_cells ho2 hpos
      have hsz2 := hs2.sizes
      have hfl2 := flatten_len9 hsz2.1
      have hone2 : ∀ u ∈ css2.flatten, u.oneCell' = true := fun u hu => by
        obtain ⟨c, hc, huc⟩ := List.mem_flatten.1 hu
        exact hsz2.2 c hc u huc
      have hl2 := hs2.1
      have hown3 := own_under hown k3
      have hsz3 := k3.size
      have HC := Lib.hid hcells
      have HO := Lib.hid hone2
      have HF := Lib.hid hfl2
      have HL := Lib.hid hl2
      clear hcells hone2 hfl2 hl2 hsz2
      go_wp2_with (at_builtin; refine wpList_append_lies _ rfl _ _ 45 rfl (w.heap.size + 1) 48 i0 zeroS 9 120 Tryz.underlying45 hi0 hz0 hz1 hz2 rfl (by decide) _ _ _ rfl hown3 ⟨g2, 0, none⟩ wl.length c2 css2.flatten rfl ?c1 HC.out HO.out hpos ?c3 ?c4 ?c5 w3.heap.size rfl ?_)
      case c1 => rw [HF.out, HL.out]
      case c3 => unfold maxLen; omega
      case c4 => omega
      case c5 => omega
      · intro g4 cap4 w4 h2 h3 h4 h5
        go_wp2_with fail
        go_roundw
        case rel => exact ⟨j + 1, css ++ css2, by omega, by go_num, by rw [HT.out, List.length_append, ← Nat.add_assoc, List.flatten_append]; exact h2, by
            rw [HT.out]
            have bX : Below (w.heap.size + 1) w3 w4 := (Below.refl _ w3).grown h3 (by omega) (fun k e => (hown3.lt k e).1)
            exact Spots.append (b := css2) ((HS.out.keep k3.size (fun g _ hlt => k3.block g hlt)).keep bX.size (fun g hgb _ => bX.block g (by omega))) (hs2.keep bX.size (fun g hgb _ => bX.block g (by omega))),
          by
            have bX : Below (w.heap.size + 1) w3 w4 := (Below.refl _ w3).grown h3 (by omega) (fun k e => (hown3.lt k e).1)
            exact (bX.block _ (by omega)).trans ((k3.block _ hal).trans hA),
          by
            have bX : Below (w.heap.size + 1) w3 w4 := (Below.refl _ w3).grown h3 (by omega) (fun k e => (hown3.lt k e).1)
            exact (bB.trans (k3.mono bB.size)).trans (bX.mono (by omega)),
          by have := h3.size; omega⟩
        case measure => simp [intOf]; omega
    · obtain rfl : j = vs.length := by omega
      have hd : decide (vs.length < vs.length) = false := by simp
      have hfin := HS.out
      rw [List.take_length] at hown hfin
      have HF := Lib.hid hfin
      clear hfin HS
      go_wp2_with fail
      go_ret
      have hown2 := own_mono hown (b' := w.heap.size) (by omega)
      rw [Nat.add_comm] at hown2
      exact ⟨⟨_, css, rfl, hown2, HF.out⟩, bB⟩
end Go.Proofs.YtlfbnfphocpgeaaGreatDoor.Tre
namespace Go.Proofs.YtlfbnfphocpgeaaGreatDoor.Tre
open Go.RowKit Kit Txt
open Num (Dec zero)
/-- What is known of an element in the world in which it is told: it is the next one. -/
def EW (v : Val) (pre : List (Nat × Value)) (x : Nat × Value) (W : World) : Prop := ∃ y, (walk 0 v)[pre.length]? = some (x.1, y) ∧ HoldV W x.2 y
/-- What a round must keep: what lay below n₀, and whatever cells lie from lo on. -/
def KeptT (n₀ lo : Nat) (A B : World) : Prop := Below n₀ A B ∧ ∀ (k : Nat) (o : Obj), lo ≤ k → A.heap[k]? = some o → o.isCells = true → B.heap[k]? = some o
theorem KeptT.refl (n₀ lo : Nat) (A : World) : KeptT n₀ lo A A := ⟨Below.refl _ _, fun _ _ _ h _ => h⟩
theorem KeptT.trans {n₀ lo : Nat} {A B C : World} (h : KeptT n₀ lo A B) (k : KeptT n₀ lo B C) : KeptT n₀ lo A C := ⟨h.1.trans k.1, fun j o h1 h2 h3 => k.2 j o h1 (h.2 j o h1 h2 h3) h3⟩
theorem KeptT.of_below {n₀ lo : Nat} {A B : World} (h : Below A.heap.size A B) (hn : n₀ ≤ A.heap.size) : KeptT n₀ lo A B := ⟨h.mono hn, fun _ _ _ h2 _ => (h.block _ (Array.getElem?_eq_some_iff.1 h2).1).trans h2⟩
theorem Ks.cells {w w' : World} {u : Value} {ls : List (List UInt8)} (h : Ks w u ls) (hz : w.heap.size ≤ w'.heap.size) (hk : ∀ g i x, w.cell? ⟨g, i, none⟩ = some x → w'.cell? ⟨g, i, none⟩ = some x) : Ks w' u ls := by
  obtain ⟨a, c, hu, h1, h2, h3⟩ := h
  refine ⟨a, c, hu, h1, h2, h3.imp id ?_⟩
  rintro ⟨g, off, ha, hg, hx⟩
  exact ⟨g, off, ha, Nat.lt_of_lt_of_le hg hz, fun i l hi => hk _ _ _ (hx i l hi)⟩
mutual
theorem Hold.cells {w w' : World} (hz : w.heap.size ≤ w'.heap.size) (hk : ∀ g i x, w.cell? ⟨g, i, none⟩ = some x → w'.cell? ⟨g, i, none⟩ = some x) : ∀ (v : Val) {cs : List Value}, Hold w cs v → Hold w' cs v
  | ⟨k, i, n, s, ks, vs⟩, cs, h => by
    rw [Hold] at h ⊢
    obtain ⟨uk, a, c, hcs, hks, hc, hm, h⟩ := h
    refine ⟨uk, a, c, hcs, hks.cells hz hk, hc, hm, h.imp id ?_⟩
    rintro ⟨g, off, ha, hg, hx⟩
    exact ⟨g, off, ha, Nat.lt_of_lt_of_le hg hz, Holds.cells hz hk vs hx⟩
theorem Holds.cells {w w' : World} (hz : w.heap.size ≤ w'.heap.size) (hk : ∀ g i x, w.cell? ⟨g, i, none⟩ = some x → w'.cell? ⟨g, i, none⟩ = some x) : ∀ (vs : List Val) {g off : Nat}, Holds w g off vs → Holds w' g off vs
  | [], _, _, _ => by rw [Holds]; trivial
  | v :: r, g, off, h => by
    rw [Holds] at h ⊢
    obtain ⟨⟨cs, h8, hv⟩, hr⟩ := h
    refine ⟨⟨cs, ⟨h8.1, fun j hj => ?_⟩, Hold.cells hz hk v hv⟩, Holds.cells hz hk r hr⟩
    have hj' : j < cs.length := by rw [h8.1]; exact hj
    rw [List.getElem?_eq_getElem hj']
    exact hk _ _ _ ((h8.2 j hj).trans (List.getElem?_eq_getElem hj'))
end
theorem put_cells {W : World} {l : Nat} {o o' : Obj} (hl : W.heap[l]? = some o) (ho : o.isCells = false) (g i : Nat) (x : Value) (h : W.cell? ⟨g, i, none⟩ = some x) : (W.putObj l o').cell? ⟨g, i, none⟩ = some x := by
  have hne : g ≠ l := fun e => by
    subst e
    unfold World.cell? at h
    rw [hl] at h
    cases o <;> simp_all [Obj.isCells]
  exact cell_keep h (World.putObj_heap_other hne)
/-- A value's memory is cells: what turns a block that is none leaves it. -/
theorem EW.put {v : Val} {pre : List (Nat × Value)} {x : Nat × Value} {W : World} {l : Nat} {o o' : Obj} (hl : W.heap[l]? = some o) (ho : o.isCells = false) (h : EW v pre x W) : EW v pre x (W.putObj l o') := by
  obtain ⟨y, hy, hx⟩ := h
  obtain ⟨cs, hu, hc⟩ := hx
  exact ⟨y, hy, cs, hu, Hold.cells (by simp) (put_cells hl ho) y hc⟩
end Go.Proofs.YtlfbnfphocpgeaaGreatDoor.Tre
namespace Go.Proofs.YtlfbnfphocpgeaaGreatDoor.Num
/-- The table, row by row. -/
def tab : List Nat := [0, 0, 0, 0, 0, 0, 0,  0, 3, 4, 2, 0, 0, 0,  0, 3, 4, 0, 0, 0, 0,  0, 0, 0, 0, 0, 5, 7,  0, 4, 4, 0, 0, 5, 7,  0, 6, 6, 0, 0, 0, 0,  0, 6, 6, 0, 0, 0, 7,  0, 9, 9, 8, 8, 0, 0,  0, 9, 9, 0, 0, 0, 0,  0, 9, 9, 0, 0, 0, 0]
def stp (s c : Nat) : Nat := tab.getD (s * 7 + c) 0
/-- A byte's kind. -/
def sg (x : Nat) : Nat := if x = 48 then 1 else if 49 ≤ x ∧ x ≤ 57 then 2 else if x = 45 then 3 else if x = 43 then 4 else if x = 46 then 5 else if x = 101 ∨ x = 69 then 6 else 0
theorem sg_lt (x : Nat) : sg x < 7 := by unfold sg; (repeat' split) <;> omega
def fin (s : Nat) : Bool := s == 3 || s == 4 || s == 6 || s == 9
def dfa : Nat → List UInt8 → Nat → Nat → Nat
  | _, [], _, L => L
  | s, b :: r, i, L => if stp s (sg b.toNat) = 0 then L else dfa (stp s (sg b.toNat)) r (i + 1) (if fin (stp s (sg b.toNat)) then i + 1 else L)
theorem dfa_at {s : Nat} (h0 : stp s 0 = 0) (l : List UInt8) (i L : Nat) :
    dfa s (l.drop i) i L = if stp s (sg (nb l i)) = 0 then L else dfa (stp s (sg (nb l i))) (l.drop (i + 1)) (i + 1) (if fin (stp s (sg (nb l i))) then i + 1 else L) := by
  by_cases hl : i < l.length
  · rw [List.drop_eq_getElem_cons hl, dfa]
    have : nb l i = l[i].toNat := by
      unfold nb
      rw [List.getD_eq_getElem?_getD, List.getElem?_eq_getElem hl]
      rfl
    rw [this]
  · rw [List.drop_eq_nil_of_le (by omega), nb_past (by omega)]
    have : sg 0 = 0 := rfl
    rw [this, if_pos h0]
    rfl
theorem sg_dig {l : List UInt8} {i : Nat} (h : DigAt l i) : sg (nb l i) = 1 ∨ sg (nb l i) = 2 := by
  unfold DigAt at h
  unfold sg
  by_cases c : nb l i = 48
  · rw [if_pos c]; exact .inl rfl
  · rw [if_neg c, if_pos (by omega)]; exact .inr rfl
theorem sg_not {l : List UInt8} {i : Nat} (h : ¬ DigAt l i) : sg (nb l i) ≠ 1 ∧ sg (nb l i) ≠ 2 ∧ (sg (nb l i) = 3 ↔ nb l i = 45) ∧ (sg (nb l i) = 4 ↔ nb l i = 43) ∧ (sg (nb l i) = 5 ↔ nb l i = 46) ∧ (sg (nb l i) = 6 ↔ (nb l i = 101 ∨ nb l i = 69)) := by
  unfold DigAt at h
  unfold sg
  generalize nb l i = x at *
  rw [if_neg (by omega), if_neg (by omega)]
  by_cases c1 : x = 45
  · subst c1; simp
  by_cases c2 : x = 43
  · subst c2; simp
  by_cases c3 : x = 46
  · subst c3; simp
  by_cases c4 : x = 101 ∨ x = 69
  · simp [c1, c2, c3, c4]
  · simp [c1, c2, c3, c4]
theorem d9 (l : List UInt8) : ∀ (k i : Nat), l.length - i = k → dfa 9 (l.drop i) i i = run l i := by
  intro k
  induction k using Nat.strongRecOn with
  | ind k ih =>
    intro i hk
    rw [dfa_at rfl]
    by_cases h : DigAt l i
    · have hl := digAt_lt h
      rw [run_on h]
      have := ih (l.length - (i + 1)) (by omega) (i + 1) rfl
      rcases sg_dig h with e | e <;> rw [e] <;> exact this
    · rw [run_stop h]
      obtain ⟨a, b, _⟩ := sg_not h
      have := sg_lt (nb l i)
      generalize sg (nb l i) = c at *
      have : c = 0 ∨ c = 3 ∨ c = 4 ∨ c = 5 ∨ c = 6 := by omega
      rcases this with rfl | rfl | rfl | rfl | rfl <;> rfl
theorem d8 (l : List UInt8) (i L : Nat) : dfa 8 (l.drop i) i L = if DigAt l i then run l i else L := by
  rw [dfa_at rfl]
  by_cases h : DigAt l i
  · rw [if_pos h, run_on h]
    have := d9 l _ (i + 1) rfl
    rcases sg_dig h with e | e <;> rw [e] <;> exact this
  · rw [if_neg h]
    obtain ⟨a, b, _⟩ := sg_not h
    have := sg_lt (nb l i)
    generalize sg (nb l i) = c at *
    have : c = 0 ∨ c = 3 ∨ c = 4 ∨ c = 5 ∨ c = 6 := by omega
    rcases this with rfl | rfl | rfl | rfl | rfl <;> rfl
theorem d7 (l : List UInt8) (i L : Nat) : dfa 7 (l.drop i) i L = if DigAt l (signEnd l i) then run l (signEnd l i) else L := by
  rw [dfa_at rfl]
  by_cases h : DigAt l i
  · have hs : signEnd l i = i := by
      unfold signEnd
      unfold DigAt at h
      rw [if_neg (by omega)]
    rw [hs, if_pos h, run_on h]
    have := d9 l _ (i + 1) rfl
    rcases sg_dig h with e | e <;> rw [e] <;> exact this
  · obtain ⟨a, b, e3, e4, _⟩ := sg_not h
    by_cases c3 : nb l i = 45
    · have hs : signEnd l i = i + 1 := by unfold signEnd; rw [if_pos (.inr c3)]
      rw [e3.2 c3, hs]
      exact d8 l (i + 1) L
    by_cases c4 : nb l i = 43
    · have hs : signEnd l i = i + 1 := by unfold signEnd; rw [if_pos (.inl c4)]
      rw [e4.2 c4, hs]
      exact d8 l (i + 1) L
    · have hs : signEnd l i = i := by unfold signEnd; rw [if_neg (fun e => e.elim c4 c3)]
      rw [hs, if_neg h]
      have n3 : sg (nb l i) ≠ 3 := fun e => c3 (e3.1 e)
      have n4 : sg (nb l i) ≠ 4 := fun e => c4 (e4.1 e)
      have := sg_lt (nb l i)
      clear e3 e4
      generalize sg (nb l i) = c at *
      have : c = 0 ∨ c = 5 ∨ c = 6 := by omega
      rcases this with rfl | rfl | rfl <;> rfl
/-- Where a letter may follow. -/
theorem d_exp (l : List UInt8) (i : Nat) (h : ¬ DigAt l i) : (if sg (nb l i) = 6 then dfa 7 (l.drop (i + 1)) (i + 1) i else i) = expEnd l i := by
  obtain ⟨_, _, _, _, _, e6⟩ := sg_not h
  unfold expEnd
  by_cases c : nb l i = 101 ∨ nb l i = 69
  · rw [if_pos (e6.2 c), d7]
    by_cases hd : DigAt l (signEnd l (i + 1))
    · rw [if_pos hd, if_pos ⟨c, hd⟩]
    · rw [if_neg hd, if_neg (fun e => hd e.2)]
  · rw [if_neg (fun e => c (e6.1 e)), if_neg (fun e => c e.1)]
theorem expEnd_dig {l : List UInt8} {i : Nat} (h : DigAt l i) : expEnd l i = i := by
  unfold DigAt at h
  unfold expEnd
  rw [if_neg (by omega)]
theorem fracEnd_dig {l : List UInt8} {i : Nat} (h : DigAt l i) : fracEnd l i = i := by
  unfold DigAt at h
  unfold fracEnd
  rw [if_neg (by omega)]
theorem d6 (l : List UInt8) : ∀ (k i : Nat), l.length - i = k → dfa 6 (l.drop i) i i = expEnd l (run l i) := by
  intro k
  induction k using Nat.strongRecOn with
  | ind k ih =>
    intro i hk
    rw [dfa_at rfl]
    by_cases h : DigAt l i
    · have hl := digAt_lt h
      rw [run_on h]
      have := ih (l.length - (i + 1)) (by omega) (i + 1) rfl
      rcases sg_dig h with e | e <;> rw [e] <;> exact this
    · rw [run_stop h, ← d_exp l i h]
      obtain ⟨a, b, _⟩ := sg_not h
      have := sg_lt (nb l i)
      generalize sg (nb l i) = c at *
      have : c = 0 ∨ c = 3 ∨ c = 4 ∨ c = 5 ∨ c = 6 := by omega
      rcases this with rfl | rfl | rfl | rfl | rfl <;> rfl
theorem d5 (l : List UInt8) (i L : Nat) : dfa 5 (l.drop i) i L = if DigAt l i then expEnd l (run l i) else L := by
  rw [dfa_at rfl]
  by_cases h : DigAt l i
  · rw [if_pos h, run_on h]
    have := d6 l _ (i + 1) rfl
    rcases sg_dig h with e | e <;> rw [e] <;> exact this
  · rw [if_neg h]
    obtain ⟨a, b, _⟩ := sg_not h
    have := sg_lt (nb l i)
    generalize sg (nb l i) = c at *
    have : c = 0 ∨ c = 3 ∨ c = 4 ∨ c = 5 ∨ c = 6 := by omega
    rcases this with rfl | rfl | rfl | rfl | rfl <;> rfl
/-- Where a point or a letter may follow. -/
theorem d_frac (l : List UInt8) (i : Nat) (h : ¬ DigAt l i) : (if sg (nb l i) = 5 then dfa 5 (l.drop (i + 1)) (i + 1) i else if sg (nb l i) = 6 then dfa 7 (l.drop (i + 1)) (i + 1) i else i) = expEnd l (fracEnd l i) := by
  obtain ⟨_, _, _, _, e5, _⟩ := sg_not h
  by_cases c : nb l i = 46
  · rw [if_pos (e5.2 c), d5]
    unfold fracEnd
    by_cases hd : DigAt l (i + 1)
    · rw [if_pos hd, if_pos ⟨c, hd⟩]
    · rw [if_neg hd, if_neg (fun e => hd e.2)]
      unfold expEnd
      rw [if_neg (by omega)]
  · have hf : fracEnd l i = i := by unfold fracEnd; rw [if_neg (fun e => c e.1)]
    rw [if_neg (fun e => c (e5.1 e)), hf]
    exact d_exp l i h
theorem d3 (l : List UInt8) (i : Nat) : dfa 3 (l.drop i) i i = expEnd l (fracEnd l i) := by
  rw [dfa_at rfl]
  by_cases h : DigAt l i
  · rw [fracEnd_dig h, expEnd_dig h]
    rcases sg_dig h with e | e <;> rw [e] <;> rfl
  · rw [← d_frac l i h]
    obtain ⟨a, b, _⟩ := sg_not h
    have := sg_lt (nb l i)
    generalize sg (nb l i) = c at *
    have : c = 0 ∨ c = 3 ∨ c = 4 ∨ c = 5 ∨ c = 6 := by omega
    rcases this with rfl | rfl | rfl | rfl | rfl <;> rfl
theorem d4 (l : List UInt8) : ∀ (k i : Nat), l.length - i = k → dfa 4 (l.drop i) i i = expEnd l (fracEnd l (run l i)) := by
  intro k
  induction k using Nat.strongRecOn with
  | ind k ih =>
    intro i hk
    rw [dfa_at rfl]
    by_cases h : DigAt l i
    · have hl := digAt_lt h
      rw [run_on h]
      have := ih (l.length - (i + 1)) (by omega) (i + 1) rfl
      rcases sg_dig h with e | e <;> rw [e] <;> exact this
    · rw [run_stop h, ← d_frac l i h]
      obtain ⟨a, b, _⟩ := sg_not h
      have := sg_lt (nb l i)
      generalize sg (nb l i) = c at *
      have : c = 0 ∨ c = 3 ∨ c = 4 ∨ c = 5 ∨ c = 6 := by omega
      rcases this with rfl | rfl | rfl | rfl | rfl <;> rfl
end Go.Proofs.YtlfbnfphocpgeaaGreatDoor.Num
namespace Go.Proofs.YtlfbnfphocpgeaaGreatDoor.Num
/-- A number's size, counted in units of ten to the power -10000. -/
def V (n : Dec) : Nat := valD n.dig * 10 ^ (n.exp + 10000).toNat
theorem right_exp {n : Dec} (h : Right n) : -10000 ≤ n.exp ∧ n.exp ≤ 10000 ∧ n.dig.length ≤ 1000 ∧ (∀ c ∈ n.dig, dg c = true) := by
  unfold Right at h
  split at h
  · rename_i h0
    rw [h0, h.2]
    simp
  · exact ⟨h.2.1, h.2.2.1, h.1, h.2.2.2.1⟩
/-- A whole number of 64 bits. -/
def W (n : Dec) : Nat := valD n.dig * 10 ^ n.exp.toNat
def whole (n : Dec) : Nat × Bool :=
  if Right n ∧ n.neg = false ∧ 0 ≤ n.exp ∧ n.exp + n.dig.length ≤ 20 ∧ W n ≤ 18446744073709551615 then (W n, true) else (0, false)
end Go.Proofs.YtlfbnfphocpgeaaGreatDoor.Num
namespace Go.Proofs.YtlfbnfphocpgeaaGreatDoor.Num
open Go

/-! the text's parts -/
/-- What stands behind the sign. -/
def rest (I F : List UInt8) (x : Option (UInt8 × List UInt8 × List UInt8)) : List UInt8 := I ++ (fracT F ++ expT x)
end Go.Proofs.YtlfbnfphocpgeaaGreatDoor.Num
namespace Go.Proofs.YtlfbnfphocpgeaaGreatDoor.Num
open Go.RowKit Kit
/-- A text as a value. -/
def txt (l : List UInt8) : ByteArray := ⟨l.toArray⟩
theorem txt_size (l : List UInt8) : (txt l).size = l.length := by simp [txt, ByteArray.size]
theorem txt_data (s : ByteArray) : s = txt s.data.toList := by simp [txt]
/-- 's[i]'. -/
theorem idx {l : List UInt8} {i : Nat} (h : i < l.length) (wx : World) : (Instr.index 9 (.string (txt l)) (.int .i64 (i : Int))).run Tryz.prog wx = .ok (.int .u8 (nb l i : Int)) wx := by
  have hs := txt_size l
  rw [run_index_string wx 9 (txt l) .i64 i Tryz.underlying9, dif_pos ⟨by omega, by omega⟩]
  congr 3
  unfold nb
  rw [List.getD_eq_getElem?_getD, List.getElem?_eq_getElem h]
  rfl
set_option maxRecDepth 100000 in
theorem digit_any {w : World} {l : List UInt8} {i : Nat} (_hl : l.length < 1000000000) :
    Calls Tryz.prog 85 #[.string (txt l), .int .i64 i] w fun e w' => e = .returned (.bool (decide (DigAt l i))) ∧ w' = w := by
  have hs := txt_size l
  by_cases h : i < l.length
  · have h1 := idx h
    have hlt : (i : Int) < (l.length : Int) := by omega
    generalize hx : nb l i = x at *
    have hd : decide (DigAt l i) = decide (48 ≤ x ∧ x ≤ 57) := decide_eq_decide.2 (by unfold DigAt; rw [hx])
    rw [hd]
    generalize (txt l) = s at *
    clear hx hd
    by_cases c1 : 48 ≤ x
    · have c1' : decide ((48 : Int) ≤ (x : Int)) = true := by simp; omega
      by_cases c2 : x ≤ 57
      · have c2' : decide ((x : Int) ≤ 57) = true := by simp; omega
        go_enter Tryz.func85, Tryz.ntmps85
        go_wp2_with fail
        go_ret
        simp [c1, c2]
      · have c2' : decide ((x : Int) ≤ 57) = false := by simp; omega
        go_enter Tryz.func85, Tryz.ntmps85
        go_wp2_with fail
        go_ret
        simp [c1, c2]
    · have c1' : decide ((48 : Int) ≤ (x : Int)) = false := by simp; omega
      go_enter Tryz.func85, Tryz.ntmps85
      go_wp2_with fail
      go_ret
      simp [c1]
  · have hlt : decide ((i : Int) < (l.length : Int)) = false := by simp; omega
    have hd : decide (DigAt l i) = false := by simp; intro e; exact h (digAt_lt e)
    rw [hd]
    go_enter Tryz.func85, Tryz.ntmps85
    go_wp2_with fail
    go_ret
    simp
end Go.Proofs.YtlfbnfphocpgeaaGreatDoor.Num
namespace Go.Proofs.YtlfbnfphocpgeaaGreatDoor.Num
open Go.RowKit Kit
/-- A number as a value. -/
def numV (n : Dec) : Value := .agg #[.bool n.neg, .string (txt n.dig), .int .i64 n.exp]
set_option maxRecDepth 100000 in
set_option maxHeartbeats 1000000 in
theorem right_any {w : World} {n : Dec} (hl : n.dig.length < 1000000000) :
    Calls Tryz.prog 83 #[numV n] w fun e w' => e = .returned (.bool (decide (Right n))) ∧ Below w.heap.size w w' := by
  obtain ⟨ng, l, ex⟩ := n
  simp only [numV]
  have hs := txt_size l
  have b0 : Below w.heap.size w (w.alloc (.cells #[.bool ng, .string (txt l), .int .i64 ex] 25)) := (Below.refl _ w).alloc (Nat.le_refl _) _
  by_cases h0 : l = []
  · subst h0
    have hR : decide (Right ⟨ng, [], ex⟩) = (!ng && decide (ex = 0)) := by unfold Right; cases ng <;> simp
    rw [hR]
    simp only [List.length_nil] at hs
    cases ng with
    | true =>
      go_enter Tryz.func83, Tryz.ntmps83
      go_wp2_with fail
      go_ret
      exact ⟨rfl, b0⟩
    | false =>
      by_cases h1 : ex = 0
      · subst h1
        go_enter Tryz.func83, Tryz.ntmps83
        go_wp2_with fail
        go_ret
        exact ⟨rfl, b0⟩
      · have h1' : (ex == 0) = false := by simp [h1]
        go_enter Tryz.func83, Tryz.ntmps83
        go_wp2_with fail
        go_ret
        exact ⟨by simp, b0⟩
  · have hn : 0 < l.length := by
      cases l with
      | nil => exact absurd rfl h0
      | cons _ _ => simp
    have hRi : Right ⟨ng, l, ex⟩ ↔ (l.length ≤ 1000 ∧ -10000 ≤ ex ∧ ex ≤ 10000 ∧ (∀ c ∈ l, dg c = true) ∧ nb l 0 ≠ 48 ∧ nb l (l.length - 1) ≠ 48) := by
      unfold Right; rw [if_neg h0]
    have hn' : ((l.length : Int) == 0) = false := by simp [h0]
    by_cases hb : l.length ≤ 1000 ∧ -10000 ≤ ex ∧ ex ≤ 10000
    · have c1 : decide ((1000 : Int) < (l.length : Int)) = false := by simp; omega
      have c2 : decide (ex < -10000) = false := by simp; omega
      have c3 : decide ((10000 : Int) < ex) = false := by simp; omega
      go_enter Tryz.func83, Tryz.ntmps83
      go_wp2_with fail
      go_loopw [3] (fun j wr => ∃ k : Nat, j = .int .i64 k ∧ k ≤ l.length ∧ (∀ c ∈ l.take k, dg c = true) ∧ wr = w.alloc (.cells #[.bool ng, .string (txt l), .int .i64 ex] 25)) (fun j _ => l.length - (intOf j).toNat)
      case atStart => exact ⟨0, rfl, Nat.zero_le _, by simp, rfl⟩
      case round =>
        obtain ⟨k, rfl, hk, hall, rfl⟩ := hrel
        by_cases hlt : k < l.length
        · have hlt' : (k : Int) < (l.length : Int) := by omega
          have hd := digit_any (w := w.alloc (.cells #[.bool ng, .string (txt l), .int .i64 ex] 25)) (l := l) (i := k) hl
          by_cases h : DigAt l k
          · rw [decide_eq_true h] at hd
            have hall2 : ∀ c ∈ l.take (k + 1), dg c = true := by
              rw [List.take_succ_eq_append_getElem hlt]
              intro c hc
              rcases List.mem_append.1 hc with hc | hc
              · exact hall c hc
              · rw [List.mem_singleton] at hc
                subst hc
                exact (digAt_dg hlt).1 h
            have HA := Lib.hid hall2
            clear hall hall2 h hRi
            go_wp2_with fail
            refine hd.mono ?_
            rintro e w1 ⟨rfl, rfl⟩
            go_wp2_with fail
            go_roundw
            case rel => exact ⟨k + 1, by go_num, by omega, HA.out, by first | trivial | rfl⟩
            case measure => simp [intOf]; omega
          · rw [decide_eq_false h] at hd
            have hR : decide (Right ⟨ng, l, ex⟩) = false := decide_eq_false (fun e => h ((digAt_dg hlt).2 ((hRi.1 e).2.2.2.1 _ (List.getElem_mem hlt))))
            have HR := Lib.hid hR
            clear hall h hRi hR
            go_wp2_with fail
            refine hd.mono ?_
            rintro e w1 ⟨rfl, rfl⟩
            go_wp2_with fail
            go_ret
            rw [HR.out]
            exact ⟨rfl, b0⟩
        · obtain rfl : k = l.length := by omega
          rw [List.take_length] at hall
          have i1 := idx hn
          rw [show ((0 : Nat) : Int) = 0 from rfl] at i1
          have i2 := idx (l := l) (i := l.length - 1) (by omega)
          have hci : ((l.length - 1 : Nat) : Int) = (l.length : Int) - 1 := by omega
          rw [hci] at i2
          by_cases h1 : nb l 0 = 48
          · have hR : decide (Right ⟨ng, l, ex⟩) = false := decide_eq_false (fun e => (hRi.1 e).2.2.2.2.1 h1)
            have HR := Lib.hid hR
            rw [h1] at i1
            clear hall hRi hR hci i2
            go_wp2_with fail
            go_ret
            rw [HR.out]
            exact ⟨rfl, b0⟩
          · have h1' : ((nb l 0 : Int) != 48) = true := by simp; omega
            by_cases h2 : nb l (l.length - 1) = 48
            · have hR : decide (Right ⟨ng, l, ex⟩) = false := decide_eq_false (fun e => (hRi.1 e).2.2.2.2.2 h2)
              have HR := Lib.hid hR
              rw [h2] at i2
              clear hall hRi hR hci
              go_wp2_with fail
              go_ret
              rw [HR.out]
              exact ⟨rfl, b0⟩
            · have h2' : ((nb l (l.length - 1) : Int) != 48) = true := by simp; omega
              have hR : decide (Right ⟨ng, l, ex⟩) = true := decide_eq_true (hRi.2 ⟨hb.1, hb.2.1, hb.2.2, hall, h1, h2⟩)
              have HR := Lib.hid hR
              generalize nb l (l.length - 1) = y at *
              generalize nb l 0 = x at *
              clear hall hRi hR hci
              go_wp2_with fail
              go_ret
              rw [HR.out]
              exact ⟨rfl, b0⟩
    · have hR : decide (Right ⟨ng, l, ex⟩) = false := decide_eq_false (fun e => hb ⟨(hRi.1 e).1, (hRi.1 e).2.1, (hRi.1 e).2.2.1⟩)
      have HR := Lib.hid hR
      have hc : (1000 : Int) < (l.length : Int) ∨ (decide ((1000 : Int) < (l.length : Int)) = false ∧ ex < -10000) ∨ (decide ((1000 : Int) < (l.length : Int)) = false ∧ decide (ex < -10000) = false ∧ (10000 : Int) < ex) := by
        simp
        omega
      clear hRi hR hb
      rcases hc with c1 | ⟨c1, c2⟩ | ⟨c1, c2, c3⟩
      all_goals
        go_enter Tryz.func83, Tryz.ntmps83
        go_wp2_with fail
        go_ret
        rw [HR.out]
        exact ⟨rfl, b0⟩
/-- One byte, as a text. -/
theorem one_text (w : World) (x : Int) (m : Nat) (hm : m < 256) (e : x = (m : Int)) : (convert 60 9 (.slice (some ⟨w.heap.size, 0, none⟩) 1 1)).run Tryz.prog (w.alloc (.cells #[.int .u8 x] 5)) = .ok (.string (txt [UInt8.ofNat m])) (w.alloc (.cells #[.int .u8 x] 5)) := by
  subst e
  have hx : Byt.Bs (w.alloc (.cells #[.int .u8 (m : Int)] 5)) (.slice (some ⟨w.heap.size, 0, none⟩) [m].length [m].length) [m] := Byt.bs_lit (World.alloc_heap_new w _) rfl (by simpa using hm)
  exact Byt.convert_text hx
theorem add_txt (a b : List UInt8) : txt a ++ txt b = txt (a ++ b) := by
  apply ByteArray.ext
  simp [txt]
/-- '+' of two texts: its size is an int. -/
theorem add_fit {a b : List UInt8} (ha : a.length < 1000000000000) (hb : b.length < 1000000000000) : ¬ (9223372036854775807 < (txt a).size + (txt b).size) := by
  have h1 := txt_size a
  have h2 := txt_size b
  omega
/-- The same, behind a call that left it alone. -/
theorem one_text_after {W w1 : World} {x : Int} {g : Nat} (k : Below W.heap.size W w1) (h : W.heap[g]? = some (.cells #[.int .u8 x] 5 (0, 0))) (m : Nat) (hm : m < 256) (e : x = (m : Int)) :
    (convert 60 9 (.slice (some ⟨g, 0, none⟩) 1 1)).run Tryz.prog w1 = .ok (.string (txt [UInt8.ofNat m])) w1 := by
  subst e
  have hx : Byt.Bs W (.slice (some ⟨g, 0, none⟩) [m].length [m].length) [m] := Byt.bs_lit h rfl (by simpa using hm)
  exact Byt.convert_text (hx.below k)
end Go.Proofs.YtlfbnfphocpgeaaGreatDoor.Num
namespace Go.Proofs.YtlfbnfphocpgeaaGreatDoor.Num
open Go.RowKit Kit
set_option maxRecDepth 100000 in
set_option maxHeartbeats 1000000 in
theorem nright_all {w : World} {n : Dec} (hl : n.dig.length < 1000000000) :
    Calls Tryz.prog 100 #[numV n] w fun e w' => e = .returned (.bool (decide (Right n))) ∧ Below w.heap.size w w' := by
  obtain ⟨ng, l, ex⟩ := n
  simp only [numV]
  have hs := txt_size l
  have b0 : Below w.heap.size w (w.alloc (.cells #[.bool ng, .string (txt l), .int .i64 ex] 25)) := (Below.refl _ w).alloc (Nat.le_refl _) _
  by_cases h0 : l = []
  · subst h0
    have hR : decide (Right ⟨ng, [], ex⟩) = (!ng && decide (ex = 0)) := by unfold Right; cases ng <;> simp
    rw [hR]
    simp only [List.length_nil] at hs
    have he : (txt []).toList = [] := by unfold txt; rw [ByteArray.toList_mk]
    cases ng with
    | true =>
      go_enter Tryz.func100, Tryz.ntmps100
      go_wp2_with fail
      go_ret
      exact ⟨rfl, b0⟩
    | false =>
      by_cases h1 : ex = 0
      · subst h1
        go_enter Tryz.func100, Tryz.ntmps100
        go_wp2_with fail
        go_ret
        exact ⟨rfl, b0⟩
      · have h1' : (ex == 0) = false := by simp [h1]
        go_enter Tryz.func100, Tryz.ntmps100
        go_wp2_with fail
        go_ret
        exact ⟨by simp, b0⟩
  · have hn : 0 < l.length := by
      cases l with
      | nil => exact absurd rfl h0
      | cons _ _ => simp
    have hRi : Right ⟨ng, l, ex⟩ ↔ (l.length ≤ 1000 ∧ -10000 ≤ ex ∧ ex ≤ 10000 ∧ (∀ c ∈ l, dg c = true) ∧ nb l 0 ≠ 48 ∧ nb l (l.length - 1) ≠ 48) := by
      unfold Right; rw [if_neg h0]
    have he1 : (txt l).toList.isEmpty = false := by unfold txt; rw [ByteArray.toList_mk]; simp [h0]
    have he2 : ((txt l).toList == []) = false := by unfold txt; rw [ByteArray.toList_mk]; simp [h0]
    by_cases hb : l.length ≤ 1000 ∧ -10000 ≤ ex ∧ ex ≤ 10000
    · have c1 : decide ((1000 : Int) < (l.length : Int)) = false := by simp; omega
      have c2 : decide (ex < -10000) = false := by simp; omega
      have c3 : decide ((10000 : Int) < ex) = false := by simp; omega
      go_enter Tryz.func100, Tryz.ntmps100
      go_wp2_with fail
      go_loopw [32] (fun j wr => ∃ k : Nat, j = .int .i64 k ∧ k ≤ l.length ∧ (∀ c ∈ l.take k, dg c = true) ∧ wr = w.alloc (.cells #[.bool ng, .string (txt l), .int .i64 ex] 25)) (fun j _ => l.length - (intOf j).toNat)
      case atStart => exact ⟨0, rfl, Nat.zero_le _, by simp, rfl⟩
      case round =>
        obtain ⟨k, rfl, hk, hall, rfl⟩ := hrel
        by_cases hlt : k < l.length
        · have hlt' : (k : Int) < (l.length : Int) := by omega
          have i1 := idx hlt
          by_cases h : DigAt l k
          · have hall2 : ∀ c ∈ l.take (k + 1), dg c = true := by
              rw [List.take_succ_eq_append_getElem hlt]
              intro c hc
              rcases List.mem_append.1 hc with hc | hc
              · exact hall c hc
              · rw [List.mem_singleton] at hc
                subst hc
                exact (digAt_dg hlt).1 h
            have HA := Lib.hid hall2
            unfold DigAt at h
            have d1 : decide ((nb l k : Int) < 48) = false := by simp; omega
            have d2 : decide ((57 : Int) < (nb l k : Int)) = false := by simp; omega
            generalize nb l k = x at *
            clear hall hall2 h hRi
            go_wp2_with fail
            go_roundw
            case rel => exact ⟨k + 1, by go_num, by omega, HA.out, by first | trivial | rfl⟩
            case measure => simp [intOf]; omega
          · have hR : decide (Right ⟨ng, l, ex⟩) = false := decide_eq_false (fun e => h ((digAt_dg hlt).2 ((hRi.1 e).2.2.2.1 _ (List.getElem_mem hlt))))
            have HR := Lib.hid hR
            unfold DigAt at h
            generalize nb l k = x at *
            clear hall hRi hR
            by_cases h1 : x < 48
            · have d1 : (x : Int) < 48 := by omega
              clear h
              go_wp2_with fail
              go_ret
              rw [HR.out]
              exact ⟨rfl, b0⟩
            · have d1 : decide ((x : Int) < 48) = false := by simp; omega
              have d2 : (57 : Int) < (x : Int) := by omega
              clear h h1
              go_wp2_with fail
              go_ret
              rw [HR.out]
              exact ⟨rfl, b0⟩
        · obtain rfl : k = l.length := by omega
          rw [List.take_length] at hall
          have i1 := idx hn
          rw [show ((0 : Nat) : Int) = 0 from rfl] at i1
          have i2 := idx (l := l) (i := l.length - 1) (by omega)
          have hci : ((l.length - 1 : Nat) : Int) = (l.length : Int) - 1 := by omega
          rw [hci] at i2
          by_cases h1 : nb l 0 = 48
          · have hR : decide (Right ⟨ng, l, ex⟩) = false := decide_eq_false (fun e => (hRi.1 e).2.2.2.2.1 h1)
            have HR := Lib.hid hR
            rw [h1] at i1
            clear hall hRi hR hci i2
            go_wp2_with fail
            go_ret
            rw [HR.out]
            exact ⟨rfl, b0⟩
          · have h1' : ((nb l 0 : Int) != 48) = true := by simp; omega
            by_cases h2 : nb l (l.length - 1) = 48
            · have hR : decide (Right ⟨ng, l, ex⟩) = false := decide_eq_false (fun e => (hRi.1 e).2.2.2.2.2 h2)
              have HR := Lib.hid hR
              rw [h2] at i2
              clear hall hRi hR hci
              go_wp2_with fail
              go_ret
              rw [HR.out]
              exact ⟨rfl, b0⟩
            · have h2' : ((nb l (l.length - 1) : Int) != 48) = true := by simp; omega
              have hR : decide (Right ⟨ng, l, ex⟩) = true := decide_eq_true (hRi.2 ⟨hb.1, hb.2.1, hb.2.2, hall, h1, h2⟩)
              have HR := Lib.hid hR
              generalize nb l (l.length - 1) = y at *
              generalize nb l 0 = x at *
              clear hall hRi hR hci
              go_wp2_with fail
              go_ret
              rw [HR.out]
              exact ⟨rfl, b0⟩
    · have hR : decide (Right ⟨ng, l, ex⟩) = false := decide_eq_false (fun e => hb ⟨(hRi.1 e).1, (hRi.1 e).2.1, (hRi.1 e).2.2.1⟩)
      have HR := Lib.hid hR
      have hc : (1000 : Int) < (l.length : Int) ∨ (decide ((1000 : Int) < (l.length : Int)) = false ∧ ex < -10000) ∨ (decide ((1000 : Int) < (l.length : Int)) = false ∧ decide (ex < -10000) = false ∧ (10000 : Int) < ex) := by
        simp
        omega
      clear hRi hR hb
      rcases hc with c1 | ⟨c1, c2⟩ | ⟨c1, c2, c3⟩
      all_goals
        go_enter Tryz.func100, Tryz.ntmps100
        go_wp2_with fail
        go_ret
        rw [HR.out]
        exact ⟨rfl, b0⟩
/-- The table in memory. -/
def tcells : Array Value := (tab.map fun k => Value.int .i64 (k : Nat)).toArray
def Tab (w : World) : Prop := ∃ t fr, w.heap[0]? = some (.cells tcells t fr)
theorem Tab.below {w w' : World} (h : Tab w) (k : Below w.heap.size w w') : Tab w' := by
  obtain ⟨t, fr, hh⟩ := h
  exact ⟨t, fr, (k.block _ (lt_of_heap hh)).trans hh⟩
theorem tab_get {s c : Nat} (hs : s < 10) (hc : c < 7) : tcells[s * 7 + c]? = some (.int .i64 (stp s c : Nat)) := by
  have hl : s * 7 + c < tab.length := by show _ < 70; omega
  have e : tab[s * 7 + c]? = some (stp s c) := by
    unfold stp
    rw [List.getD_eq_getElem?_getD, List.getElem?_eq_getElem hl]
    rfl
  unfold tcells
  rw [List.getElem?_toArray, List.getElem?_map, e]
  rfl
theorem Tab.at {w : World} (h : Tab w) {s c : Nat} (hs : s < 10) (hc : c < 7) : w.cell? ⟨0, s * 7 + c, none⟩ = some (.int .i64 (stp s c : Nat)) := by
  obtain ⟨t, fr, hh⟩ := h
  have := tab_get hs hc
  simp only [World.cell?, hh]
  simpa using this
end Go.Proofs.YtlfbnfphocpgeaaGreatDoor.Num
namespace Go.Proofs.YtlfbnfphocpgeaaGreatDoor.Num
open Go.RowKit Kit
theorem box_step {w wx wy : World} {g : Nat} {a0 a1 a2 : Value} (hS : wx.cell? ⟨g, 0, none⟩ = some a0 ∧ wx.cell? ⟨g, 1, none⟩ = some a1 ∧ wx.cell? ⟨g, 2, none⟩ = some a2 ∧ Below w.heap.size w wx)
    (kx : Below wx.heap.size wx wy) : wy.cell? ⟨g, 0, none⟩ = some a0 ∧ wy.cell? ⟨g, 1, none⟩ = some a1 ∧ wy.cell? ⟨g, 2, none⟩ = some a2 ∧ Below w.heap.size w wy := by
  obtain ⟨h1, h2, h3, h7⟩ := hS
  have hg : g < wx.heap.size := World.block_lt_of_cell? _ _ h1
  exact ⟨(kx.cell (p := ⟨g, 0, none⟩) hg).trans h1, (kx.cell (p := ⟨g, 1, none⟩) hg).trans h2, (kx.cell (p := ⟨g, 2, none⟩) hg).trans h3, h7.trans (kx.mono h7.size)⟩
theorem box_new (w : World) (a0 a1 a2 : Value) : (w.alloc (.cells #[a0, a1, a2] 25)).cell? ⟨w.heap.size, 0, none⟩ = some a0 ∧ (w.alloc (.cells #[a0, a1, a2] 25)).cell? ⟨w.heap.size, 1, none⟩ = some a1 ∧
    (w.alloc (.cells #[a0, a1, a2] 25)).cell? ⟨w.heap.size, 2, none⟩ = some a2 ∧ Below w.heap.size w (w.alloc (.cells #[a0, a1, a2] 25)) := by
  have h := World.alloc_heap_new w (.cells #[a0, a1, a2] 25)
  exact ⟨cell_of h 0, cell_of h 1, cell_of h 2, (Below.refl _ w).alloc (Nat.le_refl _) _⟩
end Go.Proofs.YtlfbnfphocpgeaaGreatDoor.Num
namespace Go.Proofs.YtlfbnfphocpgeaaGreatDoor.Num
open Go.RowKit Kit
theorem txt_extract (l : List UInt8) (i j : Nat) : (txt l).extract i j = txt ((l.drop i).take (j - i)) := by
  apply ByteArray.ext
  apply Array.ext'
  rw [ByteArray.data_extract, Array.toList_extract, List.extract_eq_take_drop]
  rfl
/-- 's[:k]', 's[k:]', 's[i:j]'. -/
theorem slH {l : List UInt8} {z : Int} {k : Nat} (hz : z = (k : Int)) (hk : k ≤ l.length) (wx : World) : (Instr.slice 9 (.string (txt l)) none (some (.int .i64 z)) none).run Tryz.prog wx = .ok (.string (txt (l.take k))) wx := by
  subst hz
  have hs := txt_size l
  rw [run_slice_string_h (P := Tryz.prog) wx 9 (txt l) Tryz.underlying9 .i64 k (by omega) (by omega), txt_extract]
  simp
theorem slL {l : List UInt8} {z : Int} {k : Nat} (hz : z = (k : Int)) (hk : k ≤ l.length) (wx : World) : (Instr.slice 9 (.string (txt l)) (some (.int .i64 z)) none none).run Tryz.prog wx = .ok (.string (txt (l.drop k))) wx := by
  subst hz
  have hs := txt_size l
  rw [run_slice_string_l (P := Tryz.prog) wx 9 (txt l) Tryz.underlying9 .i64 k (by omega) (by omega), txt_extract]
  rw [hs, Int.toNat_natCast, List.take_of_length_le (by rw [List.length_drop]; omega)]
/-- '+' of two texts, what it holds and that it fits, with the second one's bytes under a name of their own. -/
theorem add_lit {a b c : List UInt8} {s : ByteArray} (hs : s = txt b) (hc : a ++ b = c) (ha : a.length < 1000000000000) (hb : b.length < 1000000000000) : ¬ (9223372036854775807 < (txt a).size + s.size) ∧ txt a ++ s = txt c := by
  subst hs; subst hc
  exact ⟨add_fit ha hb, add_txt a b⟩
theorem negT_len (b : Bool) : (negT b).length ≤ 1 := by cases b <;> simp [negT]
end Go.Proofs.YtlfbnfphocpgeaaGreatDoor.Num
namespace Go.Proofs.YtlfbnfphocpgeaaGreatDoor.Num
open Go.RowKit Kit
/-- The result's block, and the number's. -/
def Pair (w wr : World) (ng : Bool) (d : List UInt8) (e : Int) : Prop :=
  wr.heap[w.heap.size]? = some (.cells #[.bool false, .string (txt []), .int .i64 0] 25 (0, 0)) ∧
  wr.heap[w.heap.size + 1]? = some (.cells #[.bool ng, .string (txt d), .int .i64 e] 25 (0, 0)) ∧ Below w.heap.size w wr
theorem Pair.new (w : World) (ng : Bool) : Pair w ((w.alloc (.cells #[.bool false, .string (txt []), .int .i64 0] 25)).alloc (.cells #[.bool ng, .string (txt []), .int .i64 0] 25)) ng [] 0 := by
  refine ⟨new_of (World.alloc_heap_new w _) _, ?_, ((Below.refl _ w).alloc (Nat.le_refl _) _).alloc (by simp) _⟩
  have := World.alloc_heap_new (w.alloc (.cells #[.bool false, .string (txt []), .int .i64 0] 25)) (.cells #[.bool ng, .string (txt []), .int .i64 0] 25)
  rwa [World.size_alloc] at this
theorem set_other {w : World} {b g : Nat} {o : Obj} (h : w.heap[b]? = some o) (hne : b ≠ g) (i : Nat) (v : Value) : (w.setCell ⟨g, i, none⟩ v).heap[b]? = some o := by
  rw [Below.heap_setCell w ⟨g, i, none⟩ v b hne]
  exact h
theorem Pair.neg {w wr : World} {ng : Bool} {d : List UInt8} {e : Int} (h : Pair w wr ng d e) (x : Bool) : Pair w (wr.setCell ⟨w.heap.size + 1, 0, none⟩ (.bool x)) x d e :=
  ⟨set_other h.1 (by omega) _ _, set_of h.2.1 0 _, h.2.2.setCell (p := ⟨w.heap.size + 1, 0, none⟩) (by show w.heap.size ≤ w.heap.size + 1; omega) _⟩
theorem Pair.dig {w wr : World} {ng : Bool} {d : List UInt8} {e : Int} (h : Pair w wr ng d e) (x : List UInt8) : Pair w (wr.setCell ⟨w.heap.size + 1, 1, none⟩ (.string (txt x))) ng x e :=
  ⟨set_other h.1 (by omega) _ _, set_of h.2.1 1 _, h.2.2.setCell (p := ⟨w.heap.size + 1, 1, none⟩) (by show w.heap.size ≤ w.heap.size + 1; omega) _⟩
theorem Pair.exp {w wr : World} {ng : Bool} {d : List UInt8} {e : Int} (h : Pair w wr ng d e) (x : Int) : Pair w (wr.setCell ⟨w.heap.size + 1, 2, none⟩ (.int .i64 x)) ng d x :=
  ⟨set_other h.1 (by omega) _ _, set_of h.2.1 2 _, h.2.2.setCell (p := ⟨w.heap.size + 1, 2, none⟩) (by show w.heap.size ≤ w.heap.size + 1; omega) _⟩
theorem Pair.step {w wr wx : World} {ng : Bool} {d : List UInt8} {e : Int} (h : Pair w wr ng d e) (k : Below wr.heap.size wr wx) : Pair w wx ng d e :=
  ⟨(k.block _ (lt_of_heap h.1)).trans h.1, (k.block _ (lt_of_heap h.2.1)).trans h.2.1, h.2.2.trans (k.mono h.2.2.size)⟩
theorem Pair.drew {w wr : World} {ng : Bool} {d : List UInt8} {e : Int} (h : Pair w wr ng d e) : Pair w wr.drew ng d e := ⟨h.1, h.2.1, below_drewN h.2.2 1⟩
theorem nb_get {l : List UInt8} {i : Nat} (h : i < l.length) : nb l i = (l[i]).toNat := by
  unfold nb
  rw [List.getD_eq_getElem?_getD, List.getElem?_eq_getElem h]
  rfl
theorem take_snoc {α : Type} {L : List α} {k : Nat} {a : α} (h : L[k]? = some a) : L.take (k + 1) = L.take k ++ [a] := by
  obtain ⟨hl, rfl⟩ := List.getElem?_eq_some_iff.1 h
  exact List.take_succ_eq_append_getElem hl
end Go.Proofs.YtlfbnfphocpgeaaGreatDoor.Num
namespace Go.Proofs.YtlfbnfphocpgeaaGreatDoor.Num
open Go.RowKit Kit

/-! the library's, at texts -/
set_option maxRecDepth 100000 in
theorem clone_any {l : List UInt8} (hl : l.length < 1000000) {w : World} : Calls Tryz.prog 78 #[.string (txt l)] w fun e w' => e = .returned (.string (txt l)) ∧ Below w.heap.size w w' := by
  have h := Tryz.stringslite_Clone (txt l) w (by rw [txt_size]; omega)
  go_enter Tryz.func78, Tryz.ntmps78
  go_wp2_with fail
  refine h.mono ?_
  rintro e w1 ⟨rfl, k1⟩
  go_wp2_with fail
  go_ret
  exact ⟨rfl, k1⟩
end Go.Proofs.YtlfbnfphocpgeaaGreatDoor.Num
namespace Go.Proofs.YtlfbnfphocpgeaaGreatDoor.Num
open Go.RowKit Kit
theorem toList_txt (l : List UInt8) : (txt l).toList = l := by unfold txt; rw [ByteArray.toList_mk]
end Go.Proofs.YtlfbnfphocpgeaaGreatDoor.Num
namespace Go.Proofs.YtlfbnfphocpgeaaGreatDoor.BldN
open Go.RowKit Kit Num
/-- The builder in block b, all its blocks from B on, holds l. -/
def Bld (B b : Nat) (l : List UInt8) (w : World) : Prop := B ≤ w.heap.size ∧ Lib.IsBuilder 62 5 B b (Lib.byteCells l) w
theorem Bld.new (w : World) : Bld w.heap.size w.heap.size [] (w.alloc (.cells #[.pointer none, .slice none 0 0] 62)) :=
  ⟨by simp, Lib.fresh_isBuilder _ _ _⟩
theorem at_kept {T e : TypeId} {B b : Nat} {p : Value} {bs : List Value} {w w' : World} (h : Lib.BuilderAt T e B b p bs w) (k : Below w.heap.size w w') : Lib.BuilderAt T e B b p bs w' := by
  have hlt := h.lt
  obtain ⟨hB, v, hb, hown, hne⟩ := h
  refine ⟨hB, v, (k.block b hlt).trans hb, hown.kept (row := none) ⟨k.os, k.tape, k.output, k.size, fun i hi _ => k.block i hi⟩ ?_, hne⟩
  cases hv : v.ownBlock with
  | none => exact .inl rfl
  | some g => exact .inr (by simp)
theorem Bld.kept {B b : Nat} {l : List UInt8} {w w' : World} (h : Bld B b l w) (k : Below w.heap.size w w') : Bld B b l w' :=
  ⟨Nat.le_trans h.1 k.size, h.2.elim (fun h => .inl (at_kept h k)) (fun h => .inr (at_kept h k))⟩
theorem Bld.lt {B b : Nat} {l : List UInt8} {w : World} (h : Bld B b l w) : B ≤ b ∧ b < w.heap.size := h.2.elim (fun h => ⟨h.1, h.lt⟩) (fun h => ⟨h.1, h.lt⟩)
theorem cells_app (l m : List UInt8) : Lib.byteCells l ++ Lib.byteCells m = Lib.byteCells (l ++ m) := by simp [Lib.byteCells]
theorem byte_any {B b : Nat} {l : List UInt8} {c : UInt8} {x : Int} {w : World} (h : Bld B b l w) (hl : l.length < 1000000) (hx : x = (c.toNat : Int)) :
    Calls Tryz.prog 107 #[.pointer (some ⟨b, 0, none⟩), .int .u8 x] w fun e w' => e = .returned .nilIface ∧ Bld B b (l ++ [c]) w' ∧ Below B w w' := by
  subst hx
  refine (Tryz.Builder_WriteByte B b (Lib.byteCells l) (c.toNat : Int) w h.2 (by rw [Lib.byteCells_length]; omega) h.1).mono ?_
  rintro e w' ⟨he, hb, k⟩
  refine ⟨he, ⟨Nat.le_trans h.1 k.size, .inr ?_⟩, k⟩
  rw [← cells_app]
  exact hb
theorem str_any {B b : Nat} {l m : List UInt8} {w : World} (h : Bld B b l w) (hl : l.length < 1000000) (hm : m.length < 1000000) :
    Calls Tryz.prog 108 #[.pointer (some ⟨b, 0, none⟩), .string (txt m)] w fun e w' => e = .returned (.tuple #[.int .i64 (m.length : Int), .nilIface]) ∧ Bld B b (l ++ m) w' ∧ Below B w w' := by
  refine (Tryz.Builder_WriteString B b (Lib.byteCells l) (txt m) w h.2 (by rw [Lib.byteCells_length, txt_size]; omega) h.1).mono ?_
  rintro e w' ⟨he, hb, k⟩
  rw [txt_size] at he
  refine ⟨he, ⟨Nat.le_trans h.1 k.size, .inr ?_⟩, k⟩
  rw [← cells_app]
  exact hb
theorem string_any {B b : Nat} {l : List UInt8} {w : World} (h : Bld B b l w) :
    Calls Tryz.prog 30 #[.pointer (some ⟨b, 0, none⟩)] w fun e w' => e = .returned (.string (txt l)) ∧ Below B w w' := Tryz.Builder_String_any B b l w h.2 h.1
end Go.Proofs.YtlfbnfphocpgeaaGreatDoor.BldN
namespace Go.Proofs.YtlfbnfphocpgeaaGreatDoor.Num
open Go.RowKit Kit BldN
def Pow (w : World) : Prop := Lib.TabIs Tryz.prog w "internal/strconv.uint64pow10" .u64 Lib.pow10Tab
theorem digits_lib : ∀ n, Lib.decDigits n = digits n := by
  intro n
  induction n using Nat.strongRecOn with
  | ind n ih =>
    by_cases h : n < 10
    · rw [Lib.decDigits, dif_pos h, digits_lo h]
    · rw [Lib.decDigits, dif_neg h, digits_hi (by omega), ih (n / 10) (by omega)]
theorem repeat_noughts (k : Nat) : Lib.repeatL [48] k = noughts k := by
  induction k with
  | zero => rfl
  | succ k ih =>
    show [48] ++ Lib.repeatL [48] k = noughts (k + 1)
    rw [ih]
    rfl
theorem Pow.fence {w0 w w' : World} {B : Nat} (h0 : Pow w0) (h : Pow w) (k : Below B w w') (hB : w0.heap.size ≤ B) : Pow w' := by
  unfold Pow Lib.TabIs World.var? at *
  cases hg : Tryz.prog.globalNamed "internal/strconv.uint64pow10" with
  | none => rw [hg] at h; cases h
  | some g =>
    rw [hg] at h h0
    rw [← h]
    simp only [Option.bind_some] at h h0 ⊢
    have hlt : g < w0.heap.size := by
      by_cases c : g < w0.heap.size
      · exact c
      · rw [Array.getElem?_eq_none (by omega)] at h0
        cases h0
    rw [k.block g (by omega)]
theorem Pow.below {w w' : World} (h : Pow w) (k : Below w.heap.size w w') : Pow w' := h.fence h k (Nat.le_refl _)
theorem itoa_any {z : Int} (h0 : -100000 ≤ z) (h1 : z ≤ 100000) {w : World} (hp : Pow w) :
    Calls Tryz.prog 109 #[.int .i64 z] w fun e w' => e = .returned (.string (txt (Lib.itoa z))) ∧ Below w.heap.size w w' := by
  refine (Tryz.strconv_Itoa z (by omega) (by omega) w hp).mono ?_
  rintro e w' ⟨he, k, os, rfl⟩
  exact ⟨he, Lib.below_grow _ _ (Nat.le_refl _) k os⟩
theorem repeat_any {z : Int} {c : Nat} (hz : z = (c : Int)) (hc : c ≤ 100000) {w : World} :
    Calls Tryz.prog 110 #[.string ⟨#[48]⟩, .int .i64 z] w fun e w' => e = .returned (.string (txt (noughts c))) ∧ Below w.heap.size w w' := by
  subst hz
  rw [← repeat_noughts]
  exact Tryz.strings_Repeat ⟨#[48]⟩ c w (by omega) (by show 1 * c ≤ _; omega)
set_option maxHeartbeats 4000000 in
set_option maxRecDepth 100000 in
theorem nprint_pow {w : World} (hpw : Pow w) {n : Dec} (hl : n.dig.length < 100000) :
    Calls Tryz.prog 74 #[numV n] w fun e w' => e = .returned (.string (txt (print n))) ∧ Below w.heap.size w w' := by
  have hS := box_new w (.bool n.neg) (.string (txt n.dig)) (.int .i64 n.exp)
  have hr := nright_all (w := w.alloc (.cells #[.bool n.neg, .string (txt n.dig), .int .i64 n.exp] 25)) (n := n) (by omega)
  have hs := txt_size n.dig
  have hp : print n = if ¬ Right n then []
    else if n.dig = [] then [48]
    else if 20 < n.exp then negT n.neg ++ (n.dig ++ (101 :: digits n.exp.toNat))
    else if n.exp < -20 then negT n.neg ++ (n.dig ++ (101 :: 45 :: digits (-n.exp).toNat))
    else if 0 ≤ n.exp then negT n.neg ++ (n.dig ++ noughts n.exp.toNat)
    else if -n.exp < n.dig.length then negT n.neg ++ (n.dig.take (n.dig.length - (-n.exp).toNat) ++ (46 :: n.dig.drop (n.dig.length - (-n.exp).toNat)))
    else negT n.neg ++ (48 :: 46 :: (noughts ((-n.exp).toNat - n.dig.length) ++ n.dig)) := rfl
  by_cases hR : Right n
  · obtain ⟨e0, e1, e2, -⟩ := right_exp hR
    rw [decide_eq_true hR] at hr
    rw [if_neg (not_not_intro hR)] at hp
    obtain ⟨ng, l, ex⟩ := n
    simp only [numV] at *
    by_cases h0 : l = []
    · subst h0
      rw [if_pos rfl] at hp
      rw [hp]
      have he := toList_txt []
      simp only [List.length_nil] at hs
      clear hp hR
      go_enter Tryz.func74, Tryz.ntmps74
      obtain ⟨x0, x1, x2, b0⟩ := id hS
      go_wp2_with fail
      refine hr.mono ?_
      rintro e w1 ⟨rfl, k1⟩
      have hS1 := box_step (w := w) hS k1
      clear hr k1 hS x0 x1 x2 b0
      obtain ⟨x0, x1, x2, b1⟩ := id hS1
      go_wp2_with fail
      go_ret
      exact ⟨rfl, b1⟩
    · rw [if_neg h0] at hp
      have he1 : (txt l).toList.isEmpty = false := by rw [toList_txt]; simp [h0]
      have he2 : ((txt l).toList == []) = false := by rw [toList_txt]; simp [h0]
      have hln := List.length_pos_iff.2 h0
      have hng := negT_len ng
      have HP := Lib.hid hp
      clear hR hp
      go_enter Tryz.func74, Tryz.ntmps74
      obtain ⟨x0, x1, x2, b0⟩ := id hS
      go_wp2_with fail
      refine hr.mono ?_
      rintro e w1 ⟨rfl, k1⟩
      have hS1 := box_step (w := w) hS k1
      have hpw1 := hpw.below (b0.trans (k1.mono b0.size))
      clear hr k1 hS x0 x1 x2 b0
      obtain ⟨x0, x1, x2, b1⟩ := id hS1
      obtain ⟨B, hB⟩ : ∃ B, w1.heap.size = B := ⟨_, rfl⟩
      have hnew := Bld.new w1
      have ka : Below w1.heap.size w1 (w1.alloc (.cells #[.pointer none, .slice none 0 0] 62)) := (Below.refl _ w1).alloc (Nat.le_refl _) _
      have hS2 := box_step (w := w) hS1 ka
      have hpw2 := hpw1.below ka
      obtain ⟨y0, y1, y2, b2⟩ := id hS2
      rw [hB] at hnew
      have hwB : w.heap.size ≤ B := by rw [← hB]; exact b1.size
      have hN : w.heap.size < B := by
        have := World.block_lt_of_cell? _ _ x0
        rw [← hB]
        exact this
      go_upto_if 12 with fail
      go_cut [] from 13 (fun wc => Bld B B (negT ng) wc ∧ Pow wc ∧ wc.cell? ⟨w.heap.size, 0, none⟩ = some (.bool ng) ∧ wc.cell? ⟨w.heap.size, 1, none⟩ = some (.string (txt l)) ∧ wc.cell? ⟨w.heap.size, 2, none⟩ = some (.int .i64 ex) ∧ Below w.heap.size w wc)
      case first =>
        cases ng with
        | true =>
          have hwb := byte_any (c := 45) (x := 45) hnew (by simp) rfl
          go_wp2_with fail
          refine hwb.mono ?_
          rintro e w3 ⟨rfl, hb3, k3⟩
          have hc : ∀ i, w3.cell? ⟨w.heap.size, i, none⟩ = (w1.alloc (.cells #[.pointer none, .slice none 0 0] 62)).cell? ⟨w.heap.size, i, none⟩ := fun i => k3.cell (p := ⟨w.heap.size, i, none⟩) hN
          have hpw3 := hpw.fence hpw2 k3 hwB
          go_wp2_with fail
          go_meet
          case rel => exact ⟨hb3, hpw3, (hc 0).trans y0, (hc 1).trans y1, (hc 2).trans y2, b2.trans (k3.mono hwB)⟩
        | false =>
          go_wp2_with fail
          go_meet
          case rel => exact ⟨hnew, hpw2, y0, y1, y2, b2⟩
      case rest =>
        clear x0 x1 x2 b1 y0 y1 y2 b2 hS1 hS2 hnew ka hpw1 hpw2 hB
        obtain ⟨hb, hpc, x0, x1, x2, bc⟩ := hcut
        have hsgl : (negT ng).length ≤ 1 := hng
        have hp := HP.out
        generalize negT ng = sg at *
        have hBc : B ≤ wc.heap.size := hb.1
        have hw0 : IntKind.i64.wrap ((l.length : Int) + ex) = (l.length : Int) + ex := IntWalk.i64_in _ (by omega)
        have hSc : wc.cell? ⟨w.heap.size, 0, none⟩ = some (.bool ng) ∧ wc.cell? ⟨w.heap.size, 1, none⟩ = some (.string (txt l)) ∧ wc.cell? ⟨w.heap.size, 2, none⟩ = some (.int .i64 ex) ∧ Below w.heap.size w wc := ⟨x0, x1, x2, bc⟩
        clear HP hng
        by_cases hA : ex < -20 ∨ 20 < ex
        · have hpr : print ⟨ng, l, ex⟩ = sg ++ (l ++ [101] ++ Lib.itoa ex) := by
            rw [hp]
            unfold Lib.itoa
            rcases hA with h | h
            · rw [if_neg (by omega), if_pos h, if_pos (by omega), digits_lib, show (-ex).toNat = ex.natAbs by omega]
              simp
            · rw [if_pos h, if_neg (by omega), digits_lib]
              simp
          have hIl : (Lib.itoa ex).length < 100 := by
            unfold Lib.itoa
            rw [digits_lib, digits_lib]
            have h1 := digits_len ex.natAbs 12 (by omega) (by omega)
            have h2 := digits_len ex.toNat 12 (by omega) (by omega)
            split
            · rw [List.length_cons]; omega
            · omega
          have hI := fun wx => itoa_any (z := ex) (by omega) (by omega) (w := wx)
          obtain ⟨D, hDe⟩ : ∃ D, Lib.itoa ex = D := ⟨_, rfl⟩
          rw [hDe] at hIl hpr
          simp only [hDe] at hI
          have HPR := Lib.hid hpr
          obtain ⟨f1, g1⟩ := add_lit (a := l) (b := [101]) (s := ⟨#[101]⟩) (c := l ++ [101]) rfl rfl (by omega) (by simp)
          have f1b : ¬ (9223372036854775807 < (txt l).size + 1) := by omega
          have f1c : ¬ (9223372036854775807 < l.length + 1) := by omega
          obtain ⟨A, hAe⟩ : ∃ A, l ++ [101] = A := ⟨_, rfl⟩
          have hAl := congrArg List.length hAe
          simp only [List.length_append, List.length_cons, List.length_nil] at hAl
          rw [hAe] at g1
          obtain ⟨f2, g2⟩ := add_lit (a := A) (b := D) (c := A ++ D) rfl rfl (by omega) (by omega)
          have HAE := Lib.hid hAe
          have hWS := fun wx (h : Bld B B sg wx) => str_any (m := A ++ D) h (by omega) (by rw [List.length_append]; omega)
          have c1 : ex < -20 ∨ (decide (ex < -20) = false ∧ 20 < ex) := by
            rcases hA with h | h
            · exact .inl h
            · exact .inr ⟨by simp; omega, h⟩
          clear hp hpr hAe hA hDe hAl hIl
          rcases c1 with c1 | ⟨c1, c2⟩
          all_goals
            go_upto_region 11 with fail
            clear hs
            go_region_with (first
              | (go_at_call 109; refine (hI _ (hpc.below (below_drewN (Below.refl _ _) 1))).mono ?_; rintro e wx ⟨rfl, kx⟩; have kk := (below_drewN (Below.refl wc.heap.size wc) 1).trans kx; have nS := box_step (w := w) hSc kk; obtain ⟨n0, n1, n2, n3⟩ := nS; have hB2 := hb.kept kk)
              | (go_at_call 108; refine (hWS _ hB2).mono ?_; rintro e wy ⟨rfl, hB3, ky⟩; have b3 := n3.trans (ky.mono hwB)))
            all_goals
              have hstr := string_any hB3
              clear hI hWS hB2
              go_wp2_with fail
              refine hstr.mono ?_
              rintro e wz ⟨rfl, kz⟩
              go_wp2_with fail
              go_ret
              exact ⟨by (rw [HPR.out, ← HAE.out]; rfl), b3.trans (kz.mono hwB)⟩
        · have k1 : decide (ex < -20) = false := by simp; omega
          have k2 : decide (20 < ex) = false := by simp; omega
          by_cases hZ : 0 ≤ ex
          · have hpr : print ⟨ng, l, ex⟩ = sg ++ (l ++ noughts ex.toNat) := by rw [hp, if_neg (by omega), if_neg (by omega), if_pos hZ]
            have hI := fun wx => repeat_any (z := ex) (c := ex.toNat) (by omega) (by omega) (w := wx)
            obtain ⟨D, hDe⟩ : ∃ D, noughts ex.toNat = D := ⟨_, rfl⟩
            have hIl : D.length < 100 := by rw [← hDe, noughts_len]; omega
            rw [hDe] at hpr
            simp only [hDe] at hI
            have HPR := Lib.hid hpr
            obtain ⟨f1, g1⟩ := add_lit (a := l) (b := D) (c := l ++ D) rfl rfl (by omega) (by omega)
            have hWS := fun wx (h : Bld B B sg wx) => str_any (m := l ++ D) h (by omega) (by rw [List.length_append]; omega)
            clear hp hpr hA hDe hIl
            go_upto_region 13 with fail
            clear hs
            go_region_with (first
              | (go_at_call 110; refine (hI _).mono ?_; rintro e wx ⟨rfl, kx⟩; have kk := (below_drewN (Below.refl wc.heap.size wc) 1).trans kx; have nS := box_step (w := w) hSc kk; obtain ⟨n0, n1, n2, n3⟩ := nS; have hB2 := hb.kept kk)
              | (go_at_call 108; refine (hWS _ hB2).mono ?_; rintro e wy ⟨rfl, hB3, ky⟩; have b3 := n3.trans (ky.mono hwB)))
            all_goals
              have hstr := string_any hB3
              clear hI hWS hB2
              go_wp2_with fail
              refine hstr.mono ?_
              rintro e wz ⟨rfl, kz⟩
              go_wp2_with fail
              go_ret
              exact ⟨by (rw [HPR.out]; rfl), b3.trans (kz.mono hwB)⟩
          · have k3 : decide (0 ≤ ex) = false := by simp; omega
            by_cases hC : 0 < (l.length : Int) + ex
            · obtain ⟨q, hq⟩ : ∃ q : Nat, (l.length : Int) + ex = (q : Int) := ⟨((l.length : Int) + ex).toNat, by omega⟩
              have hpr : print ⟨ng, l, ex⟩ = sg ++ (l.take q ++ [46] ++ l.drop q) := by
                rw [hp, if_neg (by omega), if_neg (by omega), if_neg hZ, if_pos (by omega), show l.length - (-ex).toNat = q by omega]
                simp
              have s1 := slH (l := l) (z := (q : Int)) (k := q) rfl (by omega)
              have s2 := slL (l := l) (z := (q : Int)) (k := q) rfl (by omega)
              have hl1 : (l.take q).length ≤ l.length := by rw [List.length_take]; omega
              have hl2 : (l.drop q).length ≤ l.length := by rw [List.length_drop]; omega
              obtain ⟨X, hX⟩ : ∃ X, l.take q = X := ⟨_, rfl⟩
              obtain ⟨Y, hY⟩ : ∃ Y, l.drop q = Y := ⟨_, rfl⟩
              rw [hX] at s1 hpr hl1
              rw [hY] at s2 hpr hl2
              have HPR := Lib.hid hpr
              obtain ⟨f1, g1⟩ := add_lit (a := X) (b := [46]) (s := ⟨#[46]⟩) (c := X ++ [46]) rfl rfl (by omega) (by simp)
              have f1b : ¬ (9223372036854775807 < (txt X).size + 1) := by have := txt_size X; omega
              obtain ⟨A, hAe⟩ : ∃ A, X ++ [46] = A := ⟨_, rfl⟩
              have hAl := congrArg List.length hAe
              simp only [List.length_append, List.length_cons, List.length_nil] at hAl
              rw [hAe] at g1
              obtain ⟨f2, g2⟩ := add_lit (a := A) (b := Y) (c := A ++ Y) rfl rfl (by omega) (by omega)
              have HAE := Lib.hid hAe
              have hWS := fun wx (h : Bld B B sg wx) => str_any (m := A ++ Y) h (by omega) (by rw [List.length_append]; omega)
              have hC' : (0 : Int) < (q : Int) := by omega
              have bd := below_drewN bc 1
              have hbd := hb.kept (below_drewN (Below.refl wc.heap.size wc) 1)
              clear hp hpr hA hAe hAl hX hY hl1 hl2 hC hZ
              go_upto_region 15 with fail
              clear hs hq
              go_region_with (first
                | (go_at_call 108; refine (hWS _ hbd).mono ?_; rintro e wy ⟨rfl, hB3, ky⟩; have b3 := bd.trans (ky.mono hwB)))
              all_goals
                have hstr := string_any hB3
                clear hWS
                go_wp2_with fail
                refine hstr.mono ?_
                rintro e wz ⟨rfl, kz⟩
                go_wp2_with fail
                go_ret
                exact ⟨by (rw [HPR.out, ← HAE.out]; rfl), b3.trans (kz.mono hwB)⟩
            · obtain ⟨q, hq⟩ : ∃ q : Nat, -((l.length : Int) + ex) = (q : Int) := ⟨(-((l.length : Int) + ex)).toNat, by omega⟩
              have hpr : print ⟨ng, l, ex⟩ = sg ++ ([48, 46] ++ noughts q ++ l) := by
                rw [hp, if_neg (by omega), if_neg (by omega), if_neg hZ, if_neg (by omega), show (-ex).toNat - l.length = q by omega]
                simp
              have k4 : decide ((0 : Int) < (l.length : Int) + ex) = false := by simp; omega
              have hI := fun wx => repeat_any (z := -((l.length : Int) + ex)) (c := q) hq (by omega) (w := wx)
              have hw3 : IntKind.i64.wrap (-((l.length : Int) + ex)) = -((l.length : Int) + ex) := IntWalk.i64_in _ (by omega)
              obtain ⟨D, hDe⟩ : ∃ D, noughts q = D := ⟨_, rfl⟩
              have hIl : D.length < 20000 := by rw [← hDe, noughts_len]; omega
              rw [hDe] at hpr
              simp only [hDe] at hI
              have HPR := Lib.hid hpr
              obtain ⟨f1, g1⟩ := add_lit (a := [48, 46]) (b := D) (c := [48, 46] ++ D) rfl rfl (by simp) (by omega)
              have hlit : (⟨#[48, 46]⟩ : ByteArray) = txt [48, 46] := rfl
              obtain ⟨A, hAe⟩ : ∃ A, [48, 46] ++ D = A := ⟨_, rfl⟩
              have hAl := congrArg List.length hAe
              simp only [List.length_append, List.length_cons, List.length_nil] at hAl
              rw [hAe] at g1
              rw [← hlit] at f1 g1
              have f1b : ¬ (9223372036854775807 < 2 + (txt D).size) := by have := txt_size D; omega
              obtain ⟨f2, g2⟩ := add_lit (a := A) (b := l) (c := A ++ l) rfl rfl (by omega) (by omega)
              have HAE := Lib.hid hAe
              have hWS := fun wx (h : Bld B B sg wx) => str_any (m := A ++ l) h (by omega) (by rw [List.length_append]; omega)
              clear hp hpr hA hAe hAl hC hZ hDe hIl hlit hq
              go_upto_region 9 with fail
              clear hs
              go_region_with (first
                | (go_at_call 110; refine (hI _).mono ?_; rintro e wx ⟨rfl, kx⟩; have kk := (below_drewN (Below.refl wc.heap.size wc) 1).trans kx; have nS := box_step (w := w) hSc kk; obtain ⟨n0, n1, n2, n3⟩ := nS; have hB2 := hb.kept kk)
                | (go_at_call 108; refine (hWS _ hB2).mono ?_; rintro e wy ⟨rfl, hB3, ky⟩; have b3 := n3.trans (ky.mono hwB)))
              all_goals
                have hstr := string_any hB3
                clear hI hWS hB2
                go_wp2_with fail
                refine hstr.mono ?_
                rintro e wz ⟨rfl, kz⟩
                go_wp2_with fail
                go_ret
                exact ⟨by (rw [HPR.out, ← HAE.out]; rfl), b3.trans (kz.mono hwB)⟩
  · rw [if_pos hR] at hp
    rw [decide_eq_false hR] at hr
    rw [hp]
    clear hp hR
    simp only [numV] at *
    go_enter Tryz.func74, Tryz.ntmps74
    obtain ⟨x0, x1, x2, b0⟩ := id hS
    have ht0 : (⟨#[]⟩ : ByteArray) = txt [] := rfl
    go_wp2_with fail
    refine hr.mono ?_
    rintro e w1 ⟨rfl, k1⟩
    have hS1 := box_step (w := w) hS k1
    clear hr k1 hS x0 x1 x2 b0
    obtain ⟨x0, x1, x2, b1⟩ := id hS1
    go_wp2_with fail
    go_ret
    exact ⟨rfl, b1⟩
end Go.Proofs.YtlfbnfphocpgeaaGreatDoor.Num
namespace Go.Proofs.YtlfbnfphocpgeaaGreatDoor.Quo
open Utf
/-- A scalar that stands in a quoted text as it is. -/
def AsIs (c : Nat) : Prop := 32 ≤ c ∧ c ≠ 34 ∧ c ≠ 92
instance (c : Nat) : Decidable (AsIs c) := by unfold AsIs; exact inferInstance
end Go.Proofs.YtlfbnfphocpgeaaGreatDoor.Quo
namespace Go.Proofs.YtlfbnfphocpgeaaGreatDoor.Quo
open Go.RowKit Kit Txt Utf
set_option maxRecDepth 100000 in
set_option maxHeartbeats 1000000 in
theorem digit_any {w : World} {n : Nat} (hn : n < 16) : Calls Tryz.prog 105 #[.int .i64 n] w fun e w' => e = .returned (.string (txt [hexD n])) ∧ Below w.heap.size w w' := by
  by_cases h : n < 10
  · have h' : (n : Int) < 10 := by omega
    have c0 := fun wx => one_text wx (48 + (n : Int)) (48 + n) (by omega) (by omega)
    have e : hexD n = UInt8.ofNat (48 + n) := by unfold hexD; rw [if_pos h]
    rw [← e] at c0
    have b0 : Below w.heap.size w (w.alloc (.cells #[.int .u8 (48 + (n : Int))] 5)) := (Below.refl _ w).alloc (Nat.le_refl _) _
    clear e
    go_enter Tryz.func105, Tryz.ntmps105
    go_wp2_with fail
    go_ret
    exact ⟨rfl, b0⟩
  · have h' : decide ((n : Int) < 10) = false := by simp; omega
    have c0 := fun wx => one_text wx (97 + (n : Int) - 10) (97 + n - 10) (by omega) (by omega)
    have e : hexD n = UInt8.ofNat (97 + n - 10) := by unfold hexD; rw [if_neg h]
    rw [← e] at c0
    have b0 : Below w.heap.size w (w.alloc (.cells #[.int .u8 (97 + (n : Int) - 10)] 5)) := (Below.refl _ w).alloc (Nat.le_refl _) _
    have w1 : IntKind.u8.wrap (97 + (n : Int) - 10) = 97 + (n : Int) - 10 := by simp only [IntKind.wrap, IntKind.signed, IntKind.bits]; simp; omega
    clear e
    go_enter Tryz.func105, Tryz.ntmps105
    go_wp2_with fail
    go_ret
    exact ⟨rfl, b0⟩
end Go.Proofs.YtlfbnfphocpgeaaGreatDoor.Quo
