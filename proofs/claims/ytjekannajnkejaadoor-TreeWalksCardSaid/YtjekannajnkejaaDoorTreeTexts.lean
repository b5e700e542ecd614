/- The contract of the document's own answer for layer 8 (package tabulariumref08): Texts. Nothing is claimed here. -/
import Derived.Test.YtjekannajnkejaaDoorTreeHold
import Derived.Lib.Hide
import Derived.Deep.RegionWith
import Derived.Deep.QuietTactic
import Derived.BigQuiet
namespace Go.Proofs.YtjekannajnkejaaDoor.Tre
open Go.RowKit Kit Txt
open Num (Dec zero)

theorem take_same {xs ys : List (List UInt8)} {j : Nat} (h1 : j < xs.length) (h2 : j < ys.length) (h : xs.take j = ys.take j) (e : xs[j] = ys[j]) : xs.take (j + 1) = ys.take (j + 1) := by
  rw [List.take_succ_eq_append_getElem h1, List.take_succ_eq_append_getElem h2, h, e]
theorem take_other {xs ys : List (List UInt8)} {j : Nat} (h1 : j < xs.length) (h2 : j < ys.length) (e : xs[j] ≠ ys[j]) : xs ≠ ys := by
  intro h
  subst h
  exact e rfl

set_option maxRecDepth 100000 in
set_option maxHeartbeats 4000000 in
theorem rtexts_any {w : World} {u v : Value} {xs ys : List (List UInt8)} (ha : Ks w u xs) (hb : Ks w v ys) : Calls Tryd.prog 29 #[u, v] w fun e w' => e = .returned (.bool (decide (xs = ys))) ∧ Below w.heap.size w w' := by
  obtain ⟨pa, ca, rfl, hca, hma, ha⟩ := ha
  obtain ⟨pb, cb, rfl, hcb, hmb, hb⟩ := hb
  by_cases hl : xs.length = ys.length
  · have hl' : (((xs.length : Nat) : Int) != ((ys.length : Nat) : Int)) = false := by rw [hl]; simp
    go_enter Tryd.func29, Tryd.ntmps29
    go_wp2_with fail
    go_loopw [5] (fun y wr => ∃ j : Nat, j ≤ xs.length ∧ y = .int .i64 j ∧ xs.take j = ys.take j ∧ Below w.heap.size w wr) (fun y _ => xs.length - (intOf y).toNat)
    case atStart => exact ⟨0, Nat.zero_le _, rfl, rfl, Below.refl _ _⟩
    case round =>
      obtain ⟨j, hj, rfl, hjt, bB⟩ := hrel
      by_cases hlt : j < xs.length
      · have hlt' : (j : Int) < (xs.length : Int) := by omega
        have hltb : j < ys.length := by omega
        have hltb' : (j : Int) < (ys.length : Int) := by omega
        rcases ha with rfl | ⟨ga, oa, rfl, hga, hxa⟩
        · exact absurd hlt (Nat.not_lt_zero _)
        rcases hb with rfl | ⟨gb, ob, rfl, hgb, hxb⟩
        · exact absurd hltb (Nat.not_lt_zero _)
        have c1 := (bB.cell (p := ⟨ga, oa + j, none⟩) hga).trans (hxa j _ (List.getElem?_eq_getElem hlt))
        have c2 := (bB.cell (p := ⟨gb, ob + j, none⟩) hgb).trans (hxb j _ (List.getElem?_eq_getElem hltb))
        have wk : IntKind.i64.wrap ((j : Int) + 1) = (j : Int) + 1 := by simp only [IntKind.wrap, IntKind.signed, IntKind.bits]; simp; omega
        by_cases he : xs[j] = ys[j]
        · have ht := take_same hlt hltb hjt he
          have HT := Lib.hid ht
          rw [← he] at c2
          generalize xs[j] = x at *
          clear ht hjt hxa hxb he
          go_wp2_with fail
          go_quiet (fail)
          go_wp2_with fail
          go_roundw
          case rel => exact ⟨j + 1, by omega, by go_num, HT.out, by first | exact bB | exact below_drewN bB _⟩
          case measure => simp [intOf]; omega
        · have hne := take_other hlt hltb he
          have n1 := txt_ne he
          have HN := Lib.hid (decide_eq_false hne)
          generalize xs[j] = x at *
          generalize ys[j] = y at *
          clear hxa hxb he hjt hne
          go_wp2_with fail
          go_quiet (fail)
          go_wp2_with fail
          go_ret
          exact ⟨by rw [HN.out]; rfl, by first | exact bB | exact below_drewN bB _⟩
      · obtain rfl : j = xs.length := by omega
        rw [List.take_length, hl, List.take_length] at hjt
        have HT := Lib.hid (decide_eq_true hjt)
        clear hjt
        go_wp2_with fail
        go_ret
        exact ⟨by rw [HT.out]; rfl, bB⟩
  · have hne : decide (xs = ys) = false := decide_eq_false fun e => hl (by rw [e])
    have hl' : (((xs.length : Nat) : Int) != ((ys.length : Nat) : Int)) = true := by simp; omega
    have HN := Lib.hid hne
    clear hne
    go_enter Tryd.func29, Tryd.ntmps29
    go_wp2_with fail
    go_ret
    exact ⟨by rw [HN.out]; rfl, Below.refl _ _⟩
end Go.Proofs.YtjekannajnkejaaDoor.Tre
