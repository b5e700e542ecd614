/- The walk of FrameJoins, over the contracts of package frame: of arguments that are no greater than the second form asks. Nothing is claimed here. -/
import Derived.Test.YtkbdahbnjklkoaaFrmLawB
import Derived.Test.YtkbdahbnjklkoaaSlicesOpen
namespace Go.Proofs.Ytkbdahbnjklkoaa.Frm
open Go.RowKit Kit Byt Var Sls

theorem total_app (a b : List (List Nat)) : total (a ++ b) = total a + total b := by simp [total]
theorem total_ge : ∀ (a : List (List Nat)), a.length ≤ total a
  | [] => Nat.zero_le _
  | l :: a => by
    have := total_ge a
    simp only [total, List.map_cons, List.sum_cons, List.length_cons] at *
    omega
theorem total_each {a : List (List Nat)} {l : List Nat} (h : l ∈ a) : l.length + 1 ≤ total a := by
  induction a with
  | nil => simp at h
  | cons x a ih =>
    simp only [total, List.map_cons, List.sum_cons] at *
    rcases List.mem_cons.1 h with rfl | h
    · omega
    · have := ih h
      omega
theorem total_take {a : List (List Nat)} {k : Nat} (h : k < a.length) : total (a.take (k + 1)) = total (a.take k) + (a[k].length + 1) := by
  rw [List.take_succ_eq_append_getElem h, total_app]
  simp [total]
theorem total_take_le (a : List (List Nat)) (k : Nat) : total (a.take k) ≤ total a := by
  conv => rhs; rw [← List.take_append_drop k a, total_app]
  omega
theorem puts_total : ∀ (a : List (List Nat)), total a ≤ 10000000 → (puts a).length ≤ 10 * total a
  | [], _ => by simp [puts]
  | l :: a, h => by
    have hc : puts (l :: a) = put l.length ++ (l ++ puts a) := by simp [puts]
    simp only [total, List.map_cons, List.sum_cons] at *
    have ih := puts_total a (by simp only [total]; omega)
    have h3 := put_len (n := l.length) (by omega)
    rw [hc, List.length_append, List.length_append]
    simp only [total] at ih
    omega

set_option maxRecDepth 100000 in
set_option maxHeartbeats 4000000 in
theorem joins_law {w : World} {a b : Option Addr} {na nb ca cb : Nat} {A B : List (List Nat)} (hna : A.length = na) (hnb : B.length = nb) (hx : Ss w (.slice a na ca) A) (hy : Ss w (.slice b nb cb) B) (hT : total A + total B ≤ 1048576) :
    Calls Try.prog 6 #[.slice a na ca, .slice b nb cb] w fun e w' => e = .returned (.bool true) ∧ Below w.heap.size w w' := by
  have hw := wakes_any (w := w)
  have hga := total_ge A
  have hgb := total_ge B
  have hTT : total (A ++ B) ≤ 1048576 := by rw [total_app]; exact hT
  have hL : (A ++ B).length = na + nb := by rw [List.length_append, hna, hnb]
  have H0 := Lib.hid hna
  have H1 := Lib.hid hnb
  have H2 := Lib.hid hTT
  have H3 := Lib.hid hL
  have hna' : na ≤ 1048576 := by omega
  have hnb' : nb ≤ 1048576 := by omega
  have H4 := Lib.hid hT
  clear hna hnb hTT hL hga hgb hT
  go_enter Try.func6, Try.ntmps6
  go_wp2_with fail
  refine hw.mono ?_
  rintro e w1 ⟨rfl, k1⟩
  have hx1 := hx.below k1
  have hy1 := hy.below k1
  have kE : Below w1.heap.size w1 (w1.alloc (.cells #[] 22)) := (Below.refl _ w1).alloc (Nat.le_refl _) _
  obtain ⟨ua, pa, -, hca, h1a, hua⟩ := hx1.vals
  go_wp2_with (at_builtin; refine wp_append_slices rfl _ _ rfl w1.heap.size rfl rfl (Sls.own_empty w1 _ (Nat.le_refl _)) ?d0 hca h1a (vals_below hua kE) ?d1 ?d2 ?_)
  case d0 => rw [pa.1]; exact H0.out
  case d1 => omega
  case d2 => simp
  intro v2 w2 ho2 hg2
  have b2 : Below w1.heap.size w1 w2 := kE.grown hg2 (by simp) (fun j e => by cases e; exact Nat.le_refl _)
  obtain ⟨ub, pb, -, hcb, h1b, hub⟩ := hy1.vals
  go_wp2_with (at_builtin; refine wp_append_slices rfl _ _ rfl w1.heap.size rfl rfl ho2 ?d0 hcb h1b (vals_below hub b2) ?d1 ?d2 ?_)
  case d0 => rw [pb.1]; exact H1.out
  case d1 => omega
  case d2 => exact b2.size
  intro v3 w3 ho3 hg3
  have b3 : Below w1.heap.size w1 w3 := b2.grown hg3 b2.size (fun j e => (ho2.lt j e).1)
  have p3 : Parts w3 (ua ++ ub) (A ++ B) := (pa.app pb).below b3
  have s3 : Ss w3 v3 (A ++ B) := ss_of_own ho3 (by rw [H3.out]) p3
  obtain ⟨sa, sc, rfl, _⟩ := own_slice ho3
  have hx3 := hx1.below b3
  have hy3 := hy1.below b3
  clear ho2 ho3 hg2 hg3 p3 pa pb hua hub
  have hsum : na + nb ≤ 2097152 := by omega
  have b31 := k1.trans (b3.mono k1.size)
  obtain ⟨n, hn⟩ : ∃ n, na + nb = n := ⟨_, rfl⟩
  have hA3 : (A ++ B).length = n := by rw [H3.out]; exact hn
  have H5 := Lib.hid hA3
  have H6 := Lib.hid hn
  have hn2 : n ≤ 2097152 := by omega
  rw [hn] at s3 ⊢
  clear hn hA3
  go_wp2_with fail
  go_loopw [5, 19] (fun t i wr => ∃ k : Nat, k ≤ n ∧ i = .int .i64 k ∧ t = .int .i64 (total ((A ++ B).take k)) ∧ wr = w3) (fun _ i _ => n - (intOf i).toNat)
  case atStart => exact ⟨0, Nat.zero_le _, rfl, rfl, rfl⟩
  case round =>
    obtain ⟨k, hk, rfl, rfl, rfl⟩ := hrel
    by_cases hlt : k < n
    · have hkl : k < (A ++ B).length := by rw [H5.out]; exact hlt
      obtain ⟨g, o, ea, ec, rfl, hg, hcell, -⟩ := ss_at s3 hkl
      have hnext := total_take hkl
      have hle := total_take_le (A ++ B) (k + 1)
      have hT := H2.out
      have hlt' : (k : Int) < (n : Int) := by omega
      obtain ⟨m, hm⟩ : ∃ m, (A ++ B)[k].length = m := ⟨_, rfl⟩
      obtain ⟨t, ht⟩ : ∃ t, total ((A ++ B).take k) = t := ⟨_, rfl⟩
      rw [hm] at hcell hnext
      rw [ht] at hnext ⊢
      rw [hnext] at hle
      have HN := Lib.hid hnext
      have hb : t + (m + 1) ≤ 1048576 := by omega
      clear hnext hle hT hm ht
      go_wp2_with fail
      go_roundw
      case rel => exact ⟨k + 1, by omega, by go_num, by rw [HN.out]; go_num, by first | rfl | trivial⟩
      case measure => simp [intOf]; omega
    · obtain rfl : n = k := by omega
      rw [show (A ++ B).take n = A ++ B from List.take_of_length_le (by rw [H5.out]; exact Nat.le_refl _)]
      have hT := H2.out
      have hTA := total_app A B
      obtain ⟨t, ht⟩ : ∃ t, total (A ++ B) = t := ⟨_, rfl⟩
      rw [ht] at hT hTA ⊢
      by_cases h2 : 2000 < t
      · have h2' : decide ((2000 : Int) < (t : Int)) = true := by simp; omega
        clear hTA ht
        go_wp2_with fail
        go_ret
        exact ⟨rfl, b31⟩
      · have h2' : decide ((2000 : Int) < (t : Int)) = false := by simp; omega
        have lA : (puts A).length ≤ 20000 := by have := puts_total A (by omega); omega
        have lB : (puts B).length ≤ 20000 := by have := puts_total B (by omega); omega
        have lAB : (puts (A ++ B)).length ≤ 40000 := by rw [puts_app, List.length_append]; omega
        have hsp := split_puts (A ++ B) (puts (A ++ B)) 0 rfl (fun b hb => by have := total_each hb; omega)
        have H7 := Lib.hid hsp
        have HAB := Lib.hid lAB
        have HA := Lib.hid lA
        have HB := Lib.hid lB
        clear hTA ht hT hsp lAB lA lB
        have hp4 := fput_any hx3 (by have := HA.out; omega)
        go_wp2_with fail
        refine hp4.mono ?_
        rintro e w4 ⟨xa, xn, xc, rfl, hxn, hxo, hxb, k4⟩
        have HX := Lib.hid hxn
        clear hp4 hxn
        have hx4 := hx3.below k4
        have hy4 := hy3.below k4
        have b4 := b31.trans (k4.mono b31.size)
        have hp5 := fput_any hy4 (by have := HB.out; omega)
        go_wp2_with fail
        refine hp5.mono ?_
        rintro e w5 ⟨ya, yn, yc, rfl, -, -, hyb, k5⟩
        clear hp5
        have hx5 := hx4.below k5
        have hy5 := hy4.below k5
        have b5 := b4.trans (k5.mono b4.size)
        have k35 := k4.trans (k5.mono k4.size)
        have hxo5 := own_below hxo k5
        go_wp2_with (at_builtin; refine wp_append_bytes rfl _ _ rfl wr.heap.size rfl rfl hxo5 hyb ?d1 ?d2 ?_)
        case d1 => have := HA.out; have := HB.out; rw [HX.out]; omega
        case d2 => exact k35.size
        intro v6 w6 ho6 hg6
        have b36 : Below wr.heap.size wr w6 := k35.grown hg6 k35.size (fun j e => (hxo5.lt j e).1)
        have b6 := b31.trans (b36.mono b31.size)
        have hb256 : ∀ b ∈ puts (A ++ B), b < 256 := by
          rw [puts_app]
          intro b hb
          rcases List.mem_append.1 hb with hb | hb
          · exact hxb.1 b hb
          · exact hyb.1 b hb
        have hr6 : Bs w6 v6 (puts (A ++ B)) := bs_of_own hb256 (by
          rw [puts_app, bytesV_app, List.length_append]
          rw [HX.out] at ho6
          exact ho6)
        obtain ⟨va, vc, rfl, _⟩ := own_slice ho6
        obtain ⟨vn, hvn⟩ : ∃ vn, xn + (puts B).length = vn := ⟨_, rfl⟩
        rw [hvn] at hr6 ⊢
        have hx6 := hx3.below b36
        have hy6 := hy3.below b36
        clear ho6 hg6 hvn hb256 hxo hxo5
        have hs7 := fsplit_any hr6 (by have := HAB.out; omega)
        rw [H7.out] at hs7
        go_wp2_with fail
        refine hs7.mono ?_
        rintro e w7 ⟨ta, tn, tc, rfl, hs7', k7⟩
        have b7 := b6.trans (k7.mono b6.size)
        obtain rfl : n = tn := by
          obtain ⟨_, _, he, _⟩ := id hs7'
          injection he with _ e2 _
          exact H5.out.symm.trans e2.symm
        have hx7 := hx6.below k7
        have hy7 := hy6.below k7
        have hr7 := hr6.below k7
        clear hs7
        have kF : Below w7.heap.size w7 (w7.alloc (.cells #[] 22)) := (Below.refl _ w7).alloc (Nat.le_refl _) _
        obtain ⟨ua', pa', -, hca', h1a', hua'⟩ := hx7.vals
        obtain ⟨ub', pb', -, hcb', h1b', hub'⟩ := hy7.vals
        go_wp2_with (at_builtin; refine wp_append_slices rfl _ _ rfl w7.heap.size rfl rfl (Sls.own_empty w7 _ (Nat.le_refl _)) ?d0 hca' h1a' (vals_below hua' kF) ?d1 ?d2 ?_)
        case d0 => rw [pa'.1]; exact H0.out
        case d1 => omega
        case d2 => simp
        intro v8 w8 ho8 hg8
        have b8 : Below w7.heap.size w7 w8 := kF.grown hg8 (by simp) (fun j e => by cases e; exact Nat.le_refl _)
        go_wp2_with (at_builtin; refine wp_append_slices rfl _ _ rfl w7.heap.size rfl rfl ho8 ?d0 hcb' h1b' (vals_below hub' b8) ?d1 ?d2 ?_)
        case d0 => rw [pb'.1]; exact H1.out
        case d1 => omega
        case d2 => exact b8.size
        intro v9 w9 ho9 hg9
        have b9 : Below w7.heap.size w7 w9 := b8.grown hg9 b8.size (fun j e => (ho8.lt j e).1)
        have p9 : Parts w9 (ua' ++ ub') (A ++ B) := (pa'.app pb').below b9
        have s9 : Ss w9 v9 (A ++ B) := ss_of_own ho9 (by rw [H3.out]) p9
        obtain ⟨qa, qc, rfl, _⟩ := own_slice ho9
        have hr9 := hr7.below b9
        have b79 := b7.trans (b9.mono b7.size)
        clear ho8 ho9 hg8 hg9 p9 pa' pb' hua' hub'
        have hp10 := rputs_any s9 (by have := HAB.out; omega)
        go_wp2_with fail
        refine hp10.mono ?_
        rintro e w10 ⟨rv, rfl, hrv, k10⟩
        have b10 := b79.trans (k10.mono b79.size)
        have h11 := same_is rfl (hr9.below k10) hrv (by have := HAB.out; omega) (by have := HAB.out; omega)
        clear hp10
        go_wp2_with fail
        refine h11.mono ?_
        rintro e w11 ⟨rfl, k11⟩
        have b11 := b10.trans (k11.mono b10.size)
        have hnn : (na : Int) + (nb : Int) = (n : Int) := by have := H6.out; omega
        go_wp2_with fail
        go_ret
        exact ⟨by simp, b11⟩
end Go.Proofs.Ytkbdahbnjklkoaa.Frm
