/- The contracts of tabulariumref04.All, and of the laws' own helper same, over slices of uint64. Nothing is claimed here. -/
import Derived.Test.YtgckfndjbhjjoaaVarRef
import Derived.Test.YtgckfndjbhjjoaaNums
import Derived.Lib.Hide
import Derived.IntWalk
namespace Go.Proofs.Ytgckfndjbhjjoaa.Var
open Go.RowKit Kit Byt

theorem us_one {w : World} {m : Nat} (h : U64.Fit m) : U64.Us (w.alloc (.cells #[.int .u64 (m : Int)] 22)) (.slice (some ⟨w.heap.size, 0, none⟩) 1 1) [m] := by
  refine ⟨by simpa using h, _, 1, rfl, Nat.le_refl _, .inr ⟨w.heap.size, 0, rfl, by simp, fun i x hi => ?_⟩⟩
  rw [Nat.zero_add, cell_of (World.alloc_heap_new w _)]
  match i, hi with
  | 0, hi => simp at hi; subst hi; rfl
  | i + 1, hi => simp at hi

set_option maxRecDepth 100000 in
set_option maxHeartbeats 4000000 in
theorem rall_any {w : World} {a : Option Addr} {n c : Nat} {l : List Nat} (hn : l.length = n) (hx : Bs w (.slice a n c) l) (h1 : n < 1000000) :
    Calls Try.prog 17 #[.slice a n c] w fun e w' => ∃ v, e = .returned v ∧ w'.ownsRow w.heap.size 22 1 v (all l).length (U64.numsV (all l)) ∧ Below w.heap.size w w' := by
  go_enter Try.func17, Try.ntmps17
  go_wp2_with fail
  go_loopw [3, 4] (fun v i wr => ∃ (k : Nat) (pre : List Nat), k ≤ n ∧ i = .int .i64 k ∧ all l = pre ++ all (l.drop k) ∧ wr.ownsRow w.heap.size 22 1 v pre.length (U64.numsV pre) ∧ Below w.heap.size w wr) (fun _ i _ => n - (intOf i).toNat)
  case atStart => exact ⟨0, [], Nat.zero_le _, rfl, rfl, World.ownsRow_nil _ _ _ _, Below.refl _ _⟩
  case round =>
    obtain ⟨k, pre, hk, rfl, hall, hown, hbel⟩ := hrel
    have hkn : (k : Int) ≤ (n : Int) := by omega
    have hpl : pre.length ≤ n := by
      have h1 := congrArg List.length hall
      have h2 := all_len _ l rfl
      rw [List.length_append] at h1
      omega
    have hkl : k ≤ l.length := by omega
    have hxr := hx.below (w' := wr) (by exact hbel)
    have hor := get_or (l.drop k)
    have hlt := get_lt (l.drop k)
    have hstop := all_stop (l := l.drop k)
    have hon := all_on (l := l.drop k)
    have hln : (l.drop k).length < 1000000000 := by rw [List.length_drop]; omega
    obtain ⟨N, S, E, hg⟩ : ∃ N S E, get (l.drop k) = (N, S, E) := ⟨_, _, _, rfl⟩
    rw [hg] at hor hlt hstop hon
    dsimp only at hor hlt hstop hon
    rw [List.length_drop] at hor
    have hfit : U64.Fit N := hlt
    have hend : (((E : Int) != 0) = true ∧ E ≠ 0) ∨ (E = 0 ∧ 0 < S ∧ k + S ≤ n) := by
      simp
      omega
    have H0 := Lib.hid hall
    have H1 := Lib.hid hstop
    have H2 := Lib.hid hon
    have H3 := Lib.hid hg
    have H4 := Lib.hid hn
    have H5 := Lib.hid hfit
    have hz := hbel.size
    obtain ⟨a', c', hsl, hd⟩ := slice_from hxr hkl
    clear hall hstop hon hg hn hor hlt hxr hfit
    go_wp2_with fail
    refine (rget_is H3.out hd hln).mono ?_
    rintro e w1 ⟨rfl, k1⟩
    have b1 := hbel.trans (k1.mono hz)
    have hz1 := b1.size
    have ho1 := U64.own_below hown k1
    have ho2 := ho1.alloc (.cells #[.int .u64 N, .int .i64 S, .int .i64 E] 33)
    have b2 := b1.alloc hz1 (.cells #[.int .u64 N, .int .i64 S, .int .i64 E] 33)
    rcases hend with ⟨h0, h0'⟩ | ⟨rfl, hS, hkS⟩
    · go_wp2_with fail
      go_ret
      refine ⟨_, rfl, ?_, b2⟩
      rw [H0.out, H1.out h0', List.append_nil]
      exact ho2
    · rw [show ((0 : Nat) : Int) = 0 from rfl] at ho2 b2
      have hwS : IntKind.i64.wrap ((k : Int) + (S : Int)) = (k : Int) + (S : Int) := IntWalk.i64_in _ (by omega)
      have hU := us_one (w := w1.alloc (.cells #[.int .u64 N, .int .i64 S, .int .i64 0] 33)) H5.out
      rw [World.size_alloc] at hU
      go_wp2_with (at_builtin; refine U64.wp_append_nums rfl _ _ rfl w.heap.size rfl rfl (ho2.alloc _) hU ?c3 ?c4 ?_)
      case c3 => simp; omega
      case c4 => simp; omega
      intro v3 w3 ho3 hg3
      have b3 : Below w.heap.size w w3 := (b2.alloc (by simp; omega) _).grown hg3 (by simp; omega) (fun j e => (ho2.lt j e).1)
      have c1 : w3.cell? ⟨w1.heap.size, 1, none⟩ = some (.int .i64 (S : Int)) :=
        (World.cell?_of_block (a := ⟨w1.heap.size, 1, none⟩) (hg3.block w1.heap.size (by simp; omega) (fun e => by have := (ho1.lt _ e.symm).2; omega))).trans (cell_of (new_of (World.alloc_heap_new w1 _) _) 1)
      go_wp2_with fail
      go_roundw
      case rel =>
        refine ⟨k + S, pre ++ [N], by omega, by go_num, ?_, ?_, b3⟩
        · have := H2.out trivial
          rw [H0.out, this, List.append_assoc, List.drop_drop]
          rfl
        · rw [U64.numsV_app, List.length_append]
          exact ho3
      case measure => simp [intOf]; omega

/-- The first so many of a list. -/
theorem nsame_any {w : World} {v u : Value} {A L : List Nat} {m : Nat} (hx : U64.Us w v A) (hy : U64.Us w u L) (h1 : L.length < 1000000000) (hm : m < 1000000000) (hA : A = L.take m) :
    Calls Try.prog 15 #[v, u, .int .i64 m] w fun e w' => e = .returned (.bool true) ∧ Below w.heap.size w w' := by
  obtain ⟨hbx, xa, xc, rfl, hxc, hx⟩ := hx
  obtain ⟨hby, ya, yc, rfl, hyc, hy⟩ := hy
  have hlen : A.length = min m L.length := by rw [hA, List.length_take]
  have hAL : A.length ≤ L.length := by omega
  have hat : ∀ j, j < A.length → L[j]? = A[j]? := fun j hj => by
    rw [hA, List.getElem?_take, if_pos (by omega)]
  have hmin : ((A.length : Int) != min (L.length : Int) (m : Int)) = false := by simp; omega
  obtain ⟨p, hp⟩ : ∃ p, A.length = p := ⟨_, rfl⟩
  have H1 := Lib.hid hat
  rw [hp] at hlen hAL hmin ⊢
  have H0 := Lib.hid hp
  clear hat hp hA hlen
  have hpL : p ≤ L.length := hAL
  go_enter Try.func15, Try.ntmps15
  go_wp2_with fail
  all_goals
    go_loopw [17] (fun i wr => ∃ k : Nat, k ≤ p ∧ i = .int .i64 k ∧ Below w.heap.size w wr) (fun i _ => p - (intOf i).toNat)
    case atStart => exact ⟨0, Nat.zero_le _, rfl, Below.refl _ _⟩
    case round =>
      obtain ⟨k, hk, rfl, hbel⟩ := hrel
      by_cases hlt : k < p
      · have hlt' : (k : Int) < (p : Int) := by omega
        have hltL : (k : Int) < (L.length : Int) := by omega
        have hkA : k < A.length := by rw [H0.out]; exact hlt
        obtain ⟨g, off, rfl, hg, hcx⟩ := hx.resolve_left (fun e => by rw [e] at hkA; simp at hkA)
        obtain ⟨g', off', rfl, hg', hcy⟩ := hy.resolve_left (fun e => by rw [e] at hltL; simp at hltL; omega)
        have e1 := (hbel.cell (p := ⟨g, off + k, none⟩) hg).trans (hcx k A[k] (List.getElem?_eq_getElem hkA))
        have e2 := (hbel.cell (p := ⟨g', off' + k, none⟩) hg').trans (hcy k A[k] ((H1.out k hkA).trans (List.getElem?_eq_getElem hkA)))
        clear hcx hcy hx hy hbx hby
        generalize A[k] = x at *
        go_wp2_with fail
        go_quiet (fail)
        go_wp2_with fail
        go_roundw
        case rel => exact ⟨k + 1, by omega, by go_num, below_drewN hbel _⟩
        case measure => simp [intOf]; omega
      · obtain rfl : k = p := by omega
        go_wp2_with fail
        go_ret
        exact ⟨rfl, hbel⟩
end Go.Proofs.Ytgckfndjbhjjoaa.Var
