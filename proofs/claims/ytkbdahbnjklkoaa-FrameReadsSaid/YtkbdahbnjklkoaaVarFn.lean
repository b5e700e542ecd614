/- The contracts of package varint (Put, Size, Get, List) over the code as it landed. Nothing is claimed here. -/
import Derived.Test.YtkbdahbnjklkoaaVarBits
import Derived.Test.YtkbdahbnjklkoaaVarWrite
import Derived.Test.YtkbdahbnjklkoaaVarGetF
import Derived.Test.YtkbdahbnjklkoaaVarRef
import Derived.Test.YtkbdahbnjklkoaaNums
import Derived.OwnWalk
namespace Go.Proofs.Ytkbdahbnjklkoaa.Var
open Go.RowKit Kit Byt

theorem get_any {w : World} {v : Value} {l : List Nat} (hx : Bs w v l) (h1 : l.length < 1000000000) :
    Calls Try.prog 35 #[v] w fun e w' => e = .returned (getV (get l)) ∧ Below w.heap.size w w' :=
  (get_eq hx h1).mono fun e w' h => ⟨h.1, by rw [h.2]; exact Below.refl _ _⟩
theorem get_is {w : World} {v : Value} {l : List Nat} {n s e : Nat} (h : get l = (n, s, e)) (hx : Bs w v l) (h1 : l.length < 1000000000) :
    Calls Try.prog 35 #[v] w fun f w' => f = .returned (.tuple #[.int .u64 n, .int .i64 s, .int .i64 e]) ∧ Below w.heap.size w w' := by
  have := get_any hx h1
  rw [h] at this
  exact this
theorem size_any {w : World} {n : Nat} (hn : n < 18446744073709551616) :
    Calls Try.prog 31 #[.int .u64 n] w fun e w' => e = .returned (.int .i64 (put n).length) ∧ Below w.heap.size w w' :=
  (size_eq hn).mono fun e w' h => ⟨h.1, by rw [h.2]; exact Below.refl _ _⟩

theorem puts_len (ns : List Nat) (h : ∀ n ∈ ns, n < 18446744073709551616) : (ns.flatMap put).length ≤ 10 * ns.length := by
  induction ns with
  | nil => simp
  | cons x ns ih =>
    rw [List.flatMap_cons, List.length_append, List.length_cons]
    have := put_len (h x (by simp))
    have := ih (fun y hy => h y (by simp [hy]))
    omega
theorem puts_byte (ns : List Nat) : ∀ b ∈ ns.flatMap put, b < 256 := by
  intro b hb
  obtain ⟨n, _, hn⟩ := List.mem_flatMap.1 hb
  exact put_byte n b hn
theorem puts_take {ns : List Nat} {k : Nat} (h : k < ns.length) : (ns.take (k + 1)).flatMap put = (ns.take k).flatMap put ++ put ns[k] := by
  rw [List.take_succ_eq_append_getElem h, List.flatMap_append]
  simp

set_option maxRecDepth 100000 in
set_option maxHeartbeats 1000000 in
theorem list_any {w : World} {v : Value} {ns : List Nat} (hx : U64.Us w v ns) (h1 : ns.length < 100000000) :
    Calls Try.prog 37 #[v] w fun e w' => ∃ a c, e = .returned (.slice a (ns.flatMap put).length c) ∧ Bs w' (.slice a (ns.flatMap put).length c) (ns.flatMap put) ∧ Below w.heap.size w w' := by
  obtain ⟨lb, a, c, rfl, _, hx⟩ := hx
  have hcell : ∀ k (h : k < ns.length), ∃ g off, a = some ⟨g, off, none⟩ ∧ g < w.heap.size ∧ w.cell? ⟨g, off + k, none⟩ = some (.int .u64 (ns[k] : Int)) := fun k h => by
    obtain ⟨g, off, e, hg, hc⟩ := hx.resolve_left (fun e => by rw [e] at h; simp at h)
    exact ⟨g, off, e, hg, hc k _ (List.getElem?_eq_getElem h)⟩
  clear hx
  have hlen : ∀ k, k ≤ ns.length → ((ns.take k).flatMap put).length ≤ 10 * k := fun k hk => by
    have := puts_len (ns.take k) (fun n hn => lb n (List.mem_of_mem_take hn))
    rw [List.length_take] at this
    omega
  go_enter Try.func37, Try.ntmps37
  go_wp2_with fail
  go_loopw [3, 11] (fun s i wr => ∃ (k q : Nat), k ≤ ns.length ∧ i = .int .i64 k ∧ s = .int .i64 q ∧ q = ((ns.take k).flatMap put).length ∧ wr = w) (fun _ i _ => ns.length - (intOf i).toNat)
  case atStart => exact ⟨0, 0, Nat.zero_le _, rfl, rfl, rfl, rfl⟩
  case round =>
    obtain ⟨k, q, hk, rfl, rfl, hq, rfl⟩ := hrel
    by_cases hlt : k < ns.length
    · obtain ⟨g, off, rfl, hg, p1⟩ := hcell k hlt
      have hlt' : (k : Int) < (ns.length : Int) := by omega
      have hfit := lb _ (List.getElem_mem hlt)
      have ht := puts_take hlt
      have hl10 := put_len hfit
      have hq1 := hlen k hk
      rw [← hq] at hq1
      have hsz := size_eq (w := wr) hfit
      generalize ns[k] = n at *
      have hq2 : ((ns.take (k + 1)).flatMap put).length = q + (put n).length := by rw [ht, List.length_append, ← hq]
      generalize (put n).length = z at *
      have H1 := Lib.hid hq2
      clear hq2 ht hq
      go_wp2_with fail
      refine hsz.mono ?_
      rintro e w1 ⟨rfl, rfl⟩
      go_wp2_with fail
      go_roundw
      case rel => exact ⟨k + 1, q + z, by omega, by go_num, by go_num, H1.out.symm, by first | trivial | rfl⟩
      case measure => simp [intOf]; omega
    · obtain rfl : k = ns.length := by omega
      rw [List.take_length] at hq
      have hq1 := hlen ns.length (Nat.le_refl _)
      rw [List.take_length, ← hq] at hq1
      have H0 := Lib.hid hq
      clear hq
      obtain ⟨i0, hi, hz0, hz1, hz2⟩ := info_parts infoByte
      go_wp2_with (at_make; refine wpList_make_own _ rfl _ _ _ rfl wr.heap.size 5 i0 (.int .u8 0) 1 Try.underlying22 hi hz0 hz1 .i64 .i64 q q rfl rfl rfl ?m1 ?m2 ?m3 ?_)
      case m1 => rw [hz2]; omega
      case m2 => unfold maxLen; omega
      case m3 => exact Nat.le_refl _
      intro w2 hown hgrow
      have b2 : Below wr.heap.size wr w2 := ((Below.refl _ wr).grown hgrow (Nat.le_refl _) (fun j e => by cases e))
      go_wp2_with fail
      go_loopw [6, 24] (fun o i wx => ∃ (k : Nat), k ≤ ns.length ∧ i = .int .i64 k ∧ wx.ownsRow wr.heap.size 5 1 o ((ns.take k).flatMap put).length (bytesV ((ns.take k).flatMap put)) ∧ Below wr.heap.size wr wx) (fun _ i _ => ns.length - (intOf i).toNat)
      case atStart => exact ⟨0, Nat.zero_le _, rfl, by first | exact hown | simpa [bytesV] using hown, b2⟩
      case round =>
        obtain ⟨k, hk, rfl, hown, b3⟩ := hrel
        have hz := b3.size
        by_cases hlt : k < ns.length
        · obtain ⟨g, off, rfl, hg, p1⟩ := hcell k hlt
          have p2 := (b3.cell (p := ⟨g, off + k, none⟩) hg).trans p1
          have hlt' : (k : Int) < (ns.length : Int) := by omega
          have hfit := lb _ (List.getElem_mem hlt)
          have ht := puts_take hlt
          have hw3 := write_any (n := ns[k]) hfit (by have := hlen k hk; omega) hz hown
          rw [← ht] at hw3
          generalize ns[k] = n at *
          clear ht p1
          go_wp2_with fail
          refine hw3.mono ?_
          rintro e w4 ⟨v4, rfl, ho4, b4⟩
          go_wp2_with fail
          go_roundw
          case rel => exact ⟨k + 1, by omega, by go_num, ho4, b3.trans b4⟩
          case measure => simp [intOf]; omega
        · obtain rfl : k = ns.length := by omega
          rw [List.take_length] at hown
          have hB := bs_of_own (puts_byte ns) hown
          obtain ⟨va, vc, rfl, _⟩ := own_slice hown
          go_wp2_with fail
          go_ret
          exact ⟨va, vc, rfl, hB, b3⟩

theorem us_arg {w : World} {n : Nat} (h : n < 18446744073709551616) : U64.Us (w.alloc (.cells #[.int .u64 (n : Int)] 31)) (.slice (some ⟨w.heap.size, 0, none⟩) 1 1) [n] := by
  refine ⟨by simpa [U64.Fit] using h, _, 1, rfl, Nat.le_refl _, .inr ⟨w.heap.size, 0, rfl, by simp, fun i x hi => ?_⟩⟩
  rw [Nat.zero_add, cell_of (World.alloc_heap_new w _)]
  match i, hi with
  | 0, hi => simp at hi; subst hi; rfl
  | i + 1, hi => simp at hi

set_option maxRecDepth 100000 in
theorem put_any {w : World} {n : Nat} (hn : n < 18446744073709551616) :
    Calls Try.prog 32 #[.int .u64 n] w fun e w' => ∃ a c, e = .returned (.slice a (put n).length c) ∧ Bs w' (.slice a (put n).length c) (put n) ∧ Below w.heap.size w w' := by
  have hl := list_any (us_arg (w := w) hn) (by simp)
  have b0 : Below w.heap.size w (w.alloc (.cells #[.int .u64 (n : Int)] 31)) := (Below.refl _ w).alloc (Nat.le_refl _) _
  rw [List.flatMap_cons, List.flatMap_nil, List.append_nil] at hl
  generalize (put n).length = z at *
  go_enter Try.func32, Try.ntmps32
  go_wp2_with fail
  refine hl.mono ?_
  rintro e w1 ⟨va, vc, rfl, hb, k1⟩
  go_wp2_with fail
  go_ret
  exact ⟨va, vc, rfl, hb, b0.trans (k1.mono (by simp))⟩
end Go.Proofs.Ytkbdahbnjklkoaa.Var
