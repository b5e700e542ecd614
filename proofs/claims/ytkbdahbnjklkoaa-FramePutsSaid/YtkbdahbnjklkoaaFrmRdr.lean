/- The contracts of package frame's Reader, over the code as it landed: what each call does to the reader, and what it tells. Nothing is claimed here. -/
import Derived.Test.YtkbdahbnjklkoaaFrmFacts
import Derived.Test.YtkbdahbnjklkoaaVarFn
import Derived.Test.YtkbdahbnjklkoaaOff
import Derived.Test.YtkbdahbnjklkoaaBytesText
import Derived.IntWalk
import Derived.Lib.MinMax
namespace Go.Proofs.Ytkbdahbnjklkoaa.Frm
open Go.RowKit Kit Byt Var

theorem wrapr {m : Nat} (h : m < 18446744073709551616) : IntKind.u64.wrap (m : Int) = (m : Int) := by
  simp only [IntKind.wrap, IntKind.signed, IntKind.bits]
  simp
  omega

/-- Where the bytes that are left lie: within the object's blocks, and not in the reader's own. -/
def Dat (lo hi g : Nat) (a : Option Addr) : Prop := ∀ d, a = some d → lo ≤ d.block ∧ d.block < hi ∧ d.block ≠ g

/-- The reader at block g: L's bytes, of which a are taken, and the error e. -/
def Rd (lo hi : Nat) (w : World) (g : Nat) (L : List Nat) (a e : Nat) : Prop :=
  (lo ≤ g ∧ g < hi ∧ hi ≤ w.heap.size ∧ a ≤ L.length) ∧ ∃ d c, Dat lo hi g d ∧ w.heap[g]? = some (.cells #[.slice d (L.length - a) c, .int .i64 e] 46 (0, 0)) ∧ Bs w (.slice d (L.length - a) c) (L.drop a)

theorem bs_stay {w w' : World} {a : Option Addr} {n c : Nat} {l : List Nat} (h : Bs w (.slice a n c) l) (hz : w.heap.size ≤ w'.heap.size) (hk : ∀ d, a = some d → w'.heap[d.block]? = w.heap[d.block]?) : Bs w' (.slice a n c) l := by
  obtain ⟨hl, a', c', he, hc, hx⟩ := h
  injection he with e1 e2 e3
  subst e1; subst e2; subst e3
  refine ⟨hl, _, _, rfl, hc, ?_⟩
  rcases hx with hx | ⟨g, off, rfl, hg, hx⟩
  · exact .inl hx
  · refine .inr ⟨g, off, rfl, Nat.lt_of_lt_of_le hg hz, fun i x hi => ?_⟩
    rw [World.cell?_of_block (a := ⟨g, off + i, none⟩) (hk ⟨g, off, none⟩ rfl)]
    exact hx i x hi

theorem Rd.lt {lo hi g a e : Nat} {w : World} {L : List Nat} (h : Rd lo hi w g L a e) : lo ≤ g ∧ g < hi ∧ hi ≤ w.heap.size ∧ a ≤ L.length := h.1
theorem Rd.keep {lo hi g a e : Nat} {w w' : World} {L : List Nat} (h : Rd lo hi w g L a e) (hz : w.heap.size ≤ w'.heap.size) (hk : ∀ k, lo ≤ k → k < hi → w'.heap[k]? = w.heap[k]?) : Rd lo hi w' g L a e := by
  obtain ⟨⟨h1, h2, h3, h4⟩, d, c, hd, hg, hb⟩ := h
  exact ⟨⟨h1, h2, Nat.le_trans h3 hz, h4⟩, d, c, hd, (hk g h1 h2).trans hg, bs_stay hb hz fun x hx => hk _ (hd x hx).1 (hd x hx).2.1⟩
theorem Rd.drew {lo hi g a e : Nat} {w : World} {L : List Nat} (h : Rd lo hi w g L a e) (n : Nat) : Rd lo hi (w.drewN n) g L a e := h.keep (Nat.le_refl _) fun _ _ _ => rfl

/-- A store into the reader's own block. -/
theorem off_set {lo hi g i : Nat} {w : World} (h1 : lo ≤ g) (h2 : g < hi) (v : Value) : Off lo hi w (w.setCell ⟨g, i, none⟩ v) :=
  ⟨rfl, rfl, rfl, (grown_set w g i v).size, fun k hk hn => (grown_set w g i v).block k hk (by intro e; injection e with e; omega)⟩

/-- The error is kept. -/
theorem Rd.fail {lo hi g a e : Nat} {w : World} {L : List Nat} (h : Rd lo hi w g L a e) (x : Nat) : Rd lo hi (w.setCell ⟨g, 1, none⟩ (.int .i64 x)) g L a x := by
  obtain ⟨⟨h1, h2, h3, h4⟩, d, c, hd, hg, hb⟩ := h
  refine ⟨⟨h1, h2, Nat.le_trans h3 (grown_set w g 1 _).size, h4⟩, d, c, hd, set_of hg 1 _, bs_stay hb (grown_set w g 1 (.int .i64 x)).size fun y hy => ?_⟩
  exact Below.heap_setCell w ⟨g, 1, none⟩ _ _ (fun e => (hd y hy).2.2 e)
/-- Bytes are taken. -/
theorem Rd.took {lo hi g a e m c' : Nat} {w : World} {L : List Nat} {d' : Option Addr} (h : Rd lo hi w g L a e) (hm : a + m ≤ L.length) (hd : Dat lo hi g d') (hb : Bs w (.slice d' (L.length - a - m) c') ((L.drop a).drop m)) :
    Rd lo hi (w.setCell ⟨g, 0, none⟩ (.slice d' (L.length - a - m) c')) g L (a + m) e := by
  obtain ⟨⟨h1, h2, h3, h4⟩, d, c, _, hg, _⟩ := h
  rw [List.drop_drop] at hb
  have hgs := set_of hg 0 (.slice d' (L.length - a - m) c')
  rw [Nat.sub_sub] at hgs hb
  rw [Nat.sub_sub]
  refine ⟨⟨h1, h2, Nat.le_trans h3 (grown_set w g 0 _).size, by omega⟩, d', c', hd, hgs, bs_stay hb (grown_set w g 0 _).size fun y hy => ?_⟩
  exact Below.heap_setCell w ⟨g, 0, none⟩ _ _ (fun e => (hd y hy).2.2 e)

/-- 'b[m:]' with where it lies. -/
theorem slice_on {lo hi g : Nat} {w : World} {a : Option Addr} {n c : Nat} {l : List Nat} (h : Bs w (.slice a n c) l) (hd : Dat lo hi g a) {m : Nat} (hm : m ≤ l.length) :
    ∃ a' c', (∀ wx : World, (Instr.sliceAt 22 (.slice a n c) (some (.int .i64 (m : Int))) none none).run Try.prog wx = .ok (.slice a' (n - m) c') wx) ∧ Dat lo hi g a' ∧ ∀ wx : World, Bs wx (.slice a n c) l → Bs wx (.slice a' (n - m) c') (l.drop m) := by
  have hu : Try.prog.underlying 22 = some (.slice (Try.prog.elem 22)) := by kernel_rfl
  have he : Try.prog.elem 22 = 5 := by kernel_rfl
  have hz := Try.sizeOf5
  have hmn : (m : Int) ≤ (n : Int) := by
    obtain ⟨_, _, _, he, _, _⟩ := id h
    injection he with _ e2 _
    omega
  by_cases hc : c = m
  · subst hc
    refine ⟨a, 0, fun wx => ?_, hd, fun wx h => h.rest0 hm⟩
    rw [run_sliceAt_slice _ _ _ _ _ _ hu, run_slice_l _ _ _ _ _ hu _ _ (by omega) hmn, he]
    simp [hz, sliced, Result.andThen]
  · refine ⟨Option.map (fun x => x.add m) a, c - m, fun wx => ?_, fun d hx => ?_, fun wx h => h.rest hm⟩
    · rw [run_sliceAt_slice _ _ _ _ _ _ hu, run_slice_l _ _ _ _ _ hu _ _ (by omega) hmn, he]
      simp [hz, sliced, Result.andThen, hc]
    · cases a with
      | none => cases hx
      | some ad =>
        injection hx with hx
        subst hx
        have e : (ad.add m).block = ad.block := by unfold Addr.add; split <;> rfl
        rw [e]
        exact hd ad rfl
/-- 'b[:k]'. -/
theorem slice_to {w : World} {a : Option Addr} {n c : Nat} {l : List Nat} (h : Bs w (.slice a n c) l) {k : Nat} (hk : k ≤ l.length) :
    ∃ a' c', (∀ wx : World, (Instr.sliceAt 22 (.slice a n c) none (some (.int .i64 (k : Int))) none).run Try.prog wx = .ok (.slice a' k c') wx) ∧ ∀ wx : World, Bs wx (.slice a n c) l → Bs wx (.slice a' k c') (l.take k) := by
  have hu : Try.prog.underlying 22 = some (.slice (Try.prog.elem 22)) := by kernel_rfl
  have he : Try.prog.elem 22 = 5 := by kernel_rfl
  have hz := Try.sizeOf5
  have hkc : (k : Int) ≤ (c : Int) := by
    obtain ⟨_, _, _, he, hc, _⟩ := id h
    injection he with _ e2 e3
    omega
  refine ⟨a, c, fun wx => ?_, fun wx h => h.take hk⟩
  rw [run_sliceAt_slice _ _ _ _ _ _ hu, run_slice_h _ _ _ _ _ hu _ _ (by omega) hkc, he]
  cases a <;> simp [hz, sliced, Result.andThen, Addr.add_zero']

set_option maxRecDepth 100000 in
set_option maxHeartbeats 1000000 in
theorem clone_any {w : World} {v : Value} {l : List Nat} (hx : Bs w v l) (h1 : l.length < 1000000000) :
    Calls Try.prog 25 #[v] w fun e w' => ∃ a c, e = .returned (.slice a l.length c) ∧ w'.ownsRow w.heap.size 5 1 (.slice a l.length c) l.length (bytesV l) ∧ Below w.heap.size w w' := by
  have hb := hx.1
  have b0 : Below w.heap.size w (w.alloc (.cells #[] 5)) := (Below.refl _ w).alloc (Nat.le_refl _) _
  have ho := Byt.own_empty w w.heap.size (Nat.le_refl _)
  have hx0 := hx.below b0
  go_enter Try.func25, Try.ntmps25
  go_wp2_with (at_builtin; refine wp_append_bytes rfl _ _ rfl w.heap.size rfl rfl ho hx0 ?d1 ?d2 ?_)
  case d1 => omega
  case d2 => simp
  intro v2 w2 ho2 hg2
  have b2 : Below w.heap.size w w2 := b0.grown hg2 (by simp) (fun j e => (ho.lt j e).1)
  go_wp2_with fail
  obtain ⟨va, vc, rfl, _⟩ := own_slice ho2
  go_ret
  exact ⟨va, vc, rfl, ho2, b2⟩

set_option maxRecDepth 100000 in
set_option maxHeartbeats 1000000 in
theorem new_any {w : World} {v : Value} {L : List Nat} (hx : Bs w v L) (h1 : L.length < 1000000) :
    Calls Try.prog 8 #[v] w fun f w' => ∃ g hi, f = .returned (.pointer (some ⟨g, 0, none⟩)) ∧ Rd w.heap.size hi w' g L 0 0 ∧ Below w.heap.size w w' := by
  have hc := clone_any hx (by omega)
  go_enter Try.func8, Try.ntmps8
  go_wp2_with fail
  refine hc.mono ?_
  rintro e w1 ⟨va, vc, rfl, ho, k1⟩
  have hb := bs_of_own hx.1 ho
  have hz := k1.size
  go_wp2_with fail
  go_ret
  have b2 := k1.alloc k1.size (.cells #[.slice va L.length vc, .int .i64 0] 46)
  refine ⟨w1.heap.size, w1.heap.size + 1, rfl, ⟨⟨hz, by omega, by simp, Nat.zero_le _⟩, va, vc, ?_, World.alloc_heap_new w1 _, ?_⟩, b2⟩
  · intro d hd
    subst hd
    have := ho.lt d.block rfl
    omega
  · exact hb.below ((Below.refl _ w1).alloc (Nat.le_refl _) _)

set_option maxRecDepth 100000 in
theorem mleft_any {lo hi g a e : Nat} {w : World} {L : List Nat} (h : Rd lo hi w g L a e) (_h1 : L.length < 1000000) :
    Calls Try.prog 19 #[.pointer (some ⟨g, 0, none⟩)] w fun f w' => f = .returned (.int .i64 (L.length - a : Nat)) ∧ Rd lo hi w' g L a e ∧ Off lo hi w w' := by
  obtain ⟨d, c, hd, hg, hb⟩ := h.2
  have hgl := lt_of_heap hg
  have c0 := cell_of hg 0
  generalize L.length - a = n at *
  have H := Lib.hid h
  clear h hg hb hd
  go_enter Try.func19, Try.ntmps19
  go_wp2_with fail
  go_ret
  exact ⟨rfl, H.out, Off.refl _ _ _⟩

set_option maxRecDepth 100000 in
theorem merr_any {lo hi g a e : Nat} {w : World} {L : List Nat} (h : Rd lo hi w g L a e) (_h1 : L.length < 1000000) :
    Calls Try.prog 20 #[.pointer (some ⟨g, 0, none⟩)] w fun f w' => f = .returned (.int .i64 (e : Nat)) ∧ Rd lo hi w' g L a e ∧ Off lo hi w w' := by
  obtain ⟨d, c, hd, hg, hb⟩ := h.2
  have hgl := lt_of_heap hg
  have c1 := cell_of hg 1
  have H := Lib.hid h
  clear h hg hb hd
  go_enter Try.func20, Try.ntmps20
  go_wp2_with fail
  go_ret
  exact ⟨rfl, H.out, Off.refl _ _ _⟩

set_option maxRecDepth 100000 in
theorem mend_any {lo hi g a e : Nat} {w : World} {L : List Nat} (h : Rd lo hi w g L a e) (_h1 : L.length < 1000000) :
    Calls Try.prog 18 #[.pointer (some ⟨g, 0, none⟩)] w fun f w' => f = .returned (.int .i64 ((if e ≠ 0 then e else if a < L.length then 14 else 0 : Nat) : Int)) ∧ Rd lo hi w' g L a e ∧ Off lo hi w w' := by
  obtain ⟨d, c, hd, hg, hb⟩ := h.2
  have hgl := lt_of_heap hg
  have c0 := cell_of hg 0
  have c1 := cell_of hg 1
  have ha := h.lt.2.2.2
  have hc : (((e : Int) == 0) = true ∧ decide (0 < L.length - a) = true ∧ (if e ≠ 0 then e else if a < L.length then 14 else 0) = 14) ∨ (((e : Int) == 0) = true ∧ decide (0 < L.length - a) = false ∧ (if e ≠ 0 then e else if a < L.length then 14 else 0) = 0 ∧ (e : Int) = 0) ∨ (((e : Int) == 0) = false ∧ (if e ≠ 0 then e else if a < L.length then 14 else 0) = e) := by
    by_cases h1 : e = 0
    · by_cases h2 : a < L.length
      · left; simp [h1, h2]; omega
      · right; left; simp [h1, h2]; omega
    · right; right; simp [h1]
  generalize L.length - a = n at *
  have H := Lib.hid h
  clear h hg hb hd ha
  rcases hc with ⟨q1, q2, q3⟩ | ⟨q1, q2, q3, q4⟩ | ⟨q1, q3⟩
  all_goals
    rw [q3]
    clear q3
    go_enter Try.func18, Try.ntmps18
    go_wp2_with fail
    go_ret
    first
      | exact ⟨rfl, H.out, Off.refl _ _ _⟩
      | exact ⟨by simp [*], H.out, Off.refl _ _ _⟩

set_option maxRecDepth 100000 in
theorem fail_any {lo hi g a e : Nat} {w : World} {L : List Nat} (h : Rd lo hi w g L a e) (x : Nat) :
    Calls Try.prog 34 #[.pointer (some ⟨g, 0, none⟩), .int .i64 (x : Int)] w fun f w' => f = .returned (.tuple #[]) ∧ Rd lo hi w' g L a (if e = 0 then x else e) ∧ Off lo hi w w' := by
  obtain ⟨d, c, hd, hg, hb⟩ := h.2
  have hgl := lt_of_heap hg
  have c1 := cell_of hg 1
  have f1 := free_of hg 1
  have hk := h.lt
  have hr := h.fail x
  have hc : (((e : Int) == 0) = true ∧ e = 0) ∨ (((e : Int) == 0) = false ∧ e ≠ 0) := by simp; omega
  have H := Lib.hid h
  have HR := Lib.hid hr
  have HK := Lib.hid hk
  clear h hg hb hd hr hk
  rcases hc with ⟨q1, q2⟩ | ⟨q1, q2⟩
  · rw [if_pos q2]
    clear q2
    go_enter Try.func34, Try.ntmps34
    go_wp2_with fail
    go_end0
    exact ⟨rfl, HR.out, off_set HK.out.1 HK.out.2.1 _⟩
  · rw [if_neg q2]
    clear q2
    go_enter Try.func34, Try.ntmps34
    go_wp2_with fail
    go_end0
    exact ⟨rfl, H.out, Off.refl _ _ _⟩

set_option maxRecDepth 100000 in
set_option maxHeartbeats 1000000 in
theorem next_any {lo hi g p e : Nat} {w : World} {L : List Nat} (h : Rd lo hi w g L p e) (_h1 : L.length < 1000000) {m : Nat} (_hm : m ≤ 9223372036854775807) :
    Calls Try.prog 27 #[.pointer (some ⟨g, 0, none⟩), .int .i64 (m : Int)] w fun f w' => ∃ a' N' c', f = .returned (.slice a' N' c') ∧ Bs w' (.slice a' N' c') (take L p e (m : Int)).2.2 ∧ Rd lo hi w' g L (take L p e (m : Int)).1 (take L p e (m : Int)).2.1 ∧ Off lo hi w w' := by
  obtain ⟨d, c, hd, hg, hb⟩ := id h.2
  have hgl := lt_of_heap hg
  have c0 := cell_of hg 0
  have c1 := cell_of hg 1
  have f0 := free_of hg 0
  have hlt := h.lt
  have hll : (L.drop p).length = L.length - p := List.length_drop
  obtain ⟨n, hn⟩ : ∃ n, L.length - p = n := ⟨_, rfl⟩
  by_cases hbig : n < m
  · have hbig' : (n : Int) < (m : Int) := by omega
    have ht : take L p e (m : Int) = (p, (if e = 0 then 2 else e), []) := by
      unfold take
      by_cases he : e = 0
      · rw [if_neg (by omega), if_pos (by omega), if_pos he]
      · rw [if_pos (by omega), if_neg he]
    rw [ht]
    dsimp only
    have hf := fail_any h 2
    obtain ⟨E, hE⟩ : ∃ E, (if e = 0 then 2 else e) = E := ⟨_, rfl⟩
    rw [hE] at hf ⊢
    have hE0 : ((E : Int) != 0) = true := by simp; split at hE <;> omega
    rw [hn] at c0
    clear ht hE hn hll hb hg hd h
    go_enter Try.func27, Try.ntmps27
    go_wp2_with fail
    refine hf.mono ?_
    rintro x w1 ⟨rfl, hR1, hO1⟩
    obtain ⟨d1, k1, -, hg1, -⟩ := id hR1.2
    have z1 := cell_of hg1 1
    have hgl1 := lt_of_heap hg1
    have HR := Lib.hid hR1
    clear hg1 hR1 hf c0 c1 f0
    go_wp2_with fail
    go_ret
    exact ⟨none, 0, 0, rfl, Bs.nil _, HR.out, hO1⟩
  · have hbig' : decide ((n : Int) < (m : Int)) = false := by simp; omega
    by_cases he : e = 0
    · subst he
      obtain ⟨a1, k1, hs1, hB1⟩ := slice_to hb (k := m) (by omega)
      obtain ⟨a2, k2, hs2, hd2, hB2⟩ := slice_on hb hd (m := m) (by omega)
      have ht : take L p 0 (m : Int) = (p + m, 0, (L.drop p).take m) := by
        unfold take
        by_cases h0 : m = 0
        · subst h0
          rw [if_pos (by omega)]
          simp
        · rw [if_neg (by omega), if_neg (by omega), Int.toNat_natCast]
      rw [ht]
      dsimp only
      have hR := h.took (m := m) (c' := k2) (by omega) hd2 (hB2 w hb)
      have hO := off_set (w := w) (i := 0) hlt.1 hlt.2.1 (.slice a2 (L.length - p - m) k2)
      have hbw := bs_stay hb (w' := w.setCell ⟨g, 0, none⟩ (.slice a2 (L.length - p - m) k2)) (grown_set w g 0 _).size (fun y hy => Below.heap_setCell w ⟨g, 0, none⟩ _ _ (fun e => (hd y hy).2.2 e))
      have hB := hB1 _ hbw
      rw [hn] at c0 hs1 hs2 hR hO hB
      have HR := Lib.hid hR
      have HB := Lib.hid hB
      clear ht hn hll hb hg hd h hd2 hB1 hB2 hR hbw hB hlt
      go_enter Try.func27, Try.ntmps27
      go_wp2_with fail
      go_ret
      exact ⟨a1, m, k1, rfl, HB.out, HR.out, hO⟩
    · have he' : ((e : Int) != 0) = true := by simp; omega
      have ht : take L p e (m : Int) = (p, e, []) := by
        unfold take
        rw [if_pos (by omega)]
      rw [ht]
      dsimp only
      rw [hn] at c0
      have HR := Lib.hid h
      clear ht hn hll hb hg hd h he
      go_enter Try.func27, Try.ntmps27
      go_wp2_with fail
      go_ret
      exact ⟨none, 0, 0, rfl, Bs.nil _, HR.out, Off.refl _ _ _⟩

set_option maxRecDepth 100000 in
set_option maxHeartbeats 1000000 in
theorem number_un {lo hi g p e N S E : Nat} {w : World} {L : List Nat} (h : Rd lo hi w g L p e) (h1 : L.length < 1000000) (hnum : (if e ≠ 0 then (0, 0, e) else get (L.drop p)) = (N, S, E)) :
    Calls Try.prog 29 #[.pointer (some ⟨g, 0, none⟩)] w fun f w' => f = .returned (.tuple #[.int .u64 (N : Int), .int .i64 (S : Int)]) ∧ Rd lo hi w' g L p E ∧ Off lo hi w w' := by
  obtain ⟨d, c, hd, hg, hb⟩ := id h.2
  have hgl := lt_of_heap hg
  have c0 := cell_of hg 0
  have c1 := cell_of hg 1
  by_cases he : e = 0
  · subst he
    rw [if_neg (by omega)] at hnum
    have hgt := get_is hnum hb (by rw [List.length_drop]; omega)
    generalize L.length - p = n at *
    have H := Lib.hid h
    clear h hg hb hd hnum
    go_enter Try.func29, Try.ntmps29
    go_wp2_with fail
    refine hgt.mono ?_
    rintro x w1 ⟨rfl, k1⟩
    have hR1 := H.out.keep k1.size (fun k _ hk => k1.block k (by have := H.out.lt; omega))
    have hO1 : Off lo hi w w1 := Off.of_below k1
    have hgl1 : g < w1.heap.size := Nat.lt_of_lt_of_le hgl k1.size
    have hf := fail_any hR1 E
    rw [if_pos rfl] at hf
    clear hR1 k1 hgt c0 c1
    go_wp2_with fail
    refine hf.mono ?_
    rintro x w2 ⟨rfl, hR2, hO2⟩
    go_wp2_with fail
    go_ret2
    exact ⟨rfl, hR2, hO1.trans hO2⟩
  · rw [if_pos he] at hnum
    injection hnum with e1 e2
    injection e2 with e2 e3
    subst e1; subst e2; subst e3
    have he' : ((e : Int) != 0) = true := by simp; omega
    generalize L.length - p = n at *
    have H := Lib.hid h
    clear h hg hb hd he
    go_enter Try.func29, Try.ntmps29
    go_wp2_with fail
    go_ret2
    exact ⟨rfl, H.out, Off.refl _ _ _⟩

/-- What comes next as the reader tells it: the number, its size, the error. -/
theorem number_as {L : List Nat} {p e q e1 N : Nat} (hnum : number L p e = (q, e1, N)) : ∃ S, (if e ≠ 0 then (0, 0, e) else get (L.drop p)) = (N, S, e1) ∧ q = p + S := by
  have ho := get_or (L.drop p)
  unfold number at hnum
  by_cases he : e ≠ 0
  · rw [if_pos he] at hnum
    injection hnum with a1 a2
    injection a2 with a2 a3
    rw [if_pos he]
    exact ⟨0, by rw [← a2, ← a3], by omega⟩
  · rw [if_neg he] at hnum
    rw [if_neg he]
    by_cases h2 : (get (L.drop p)).2.2 ≠ 0
    · rw [if_pos h2] at hnum
      injection hnum with a1 a2
      injection a2 with a2 a3
      refine ⟨0, ?_, by omega⟩
      rw [← a2, ← a3]
      exact Prod.ext (by dsimp only; omega) (Prod.ext (by dsimp only; omega) rfl)
    · rw [if_neg h2] at hnum
      injection hnum with a1 a2
      injection a2 with a2 a3
      refine ⟨(get (L.drop p)).2.1, ?_, a1.symm⟩
      rw [← a2, ← a3]
      exact Prod.ext rfl (Prod.ext rfl (by dsimp only; omega))
theorem take_zero {L : List Nat} {p e : Nat} : take L p e ((0 : Nat) : Int) = (p, e, []) := by
  unfold take
  rw [if_pos (by omega)]
theorem take_skip {L : List Nat} {p S : Nat} (h : p + S ≤ L.length) : take L p 0 (S : Int) = (p + S, 0, (L.drop p).take S) := by
  unfold take
  by_cases h0 : S = 0
  · subst h0
    rw [if_pos (by omega)]
    simp
  · rw [if_neg (by omega), if_neg (by omega), Int.toNat_natCast]

set_option maxRecDepth 100000 in
set_option maxHeartbeats 1000000 in
theorem content_any {lo hi g p e : Nat} {w : World} {L : List Nat} (h : Rd lo hi w g L p e) (h1 : L.length < 1000000) {m : Nat} (hm : m ≤ 9223372036854775807) :
    Calls Try.prog 30 #[.pointer (some ⟨g, 0, none⟩), .int .i64 (m : Int)] w fun f w' => ∃ a' N' c', f = .returned (.slice a' N' c') ∧ Bs w' (.slice a' N' c') (frame L p e (m : Int)).2.2 ∧ Rd lo hi w' g L (frame L p e (m : Int)).1 (frame L p e (m : Int)).2.1 ∧ Off lo hi w w' := by
  obtain ⟨q, e1, N, hnum⟩ : ∃ q e1 N, number L p e = (q, e1, N) := ⟨_, _, _, rfl⟩
  have hfr : frame L p e (m : Int) = if e1 ≠ 0 then (q, e1, []) else if (m : Int).toNat < N then (p, 4, []) else if L.length - q < N then (p, 2, []) else take L q 0 N := by
    unfold frame
    rw [hnum]
  rw [Int.toNat_natCast] at hfr
  obtain ⟨S, hgt, hq⟩ := number_as hnum
  have hu := number_un h h1 hgt
  have hcm : IntKind.u64.wrap (m : Int) = (m : Int) := wrapr (by omega)
  have hlt := h.lt
  obtain ⟨T, hT⟩ : ∃ T, frame L p e (m : Int) = T := ⟨_, rfl⟩
  rw [hT] at hfr ⊢
  by_cases he : e1 ≠ 0
  · rw [if_pos he] at hfr
    obtain ⟨hqp, rfl⟩ := number_err hnum he
    obtain rfl : S = 0 := by omega
    subst hqp
    subst hfr
    dsimp only
    have hn0 := fun (wx : World) (hR : Rd lo hi wx g L q e1) => next_any hR h1 (m := 0) (by omega)
    rw [take_zero] at hn0
    dsimp only at hn0
    have hd1 : decide ((m : Int) < 0) = false := by simp
    obtain ⟨n, hn⟩ : ∃ n, L.length - q = n := ⟨_, rfl⟩
    have hwn : IntKind.u64.wrap (n : Int) = (n : Int) := wrapr (by omega)
    have hwi : IntKind.i64.wrap (n : Int) = (n : Int) := IntWalk.i64_in _ (by omega)
    have hd2 : decide ((n : Int) < 0) = false := by simp
    have HN := Lib.hid hn
    clear hT hnum hgt hn hlt h
    go_enter Try.func30, Try.ntmps30
    go_wp2_with fail
    refine hu.mono ?_
    rintro x w1 ⟨rfl, hR1, hO1⟩
    obtain ⟨d1, k1, -, hg1, -⟩ := id hR1.2
    have hgl1 := lt_of_heap hg1
    have z0 := cell_of hg1 0
    rw [HN.out] at z0
    have H1 := hn0 w1 hR1
    clear hu hg1
    go_wp2_with fail
    refine H1.mono ?_
    rintro x w2 ⟨a2, n2, c2, rfl, -, hR2, hO2⟩
    have H2 := hn0 w2 hR2
    have hgl2 := Nat.lt_of_lt_of_le hgl1 hO2.size
    clear z0 H1 hR1
    go_wp2_with fail
    refine H2.mono ?_
    rintro x w3 ⟨a3, n3, c3, rfl, hB3, hR3, hO3⟩
    clear H2 hR2
    go_wp2_with fail
    go_ret
    exact ⟨a3, n3, c3, rfl, hB3, hR3, (hO1.trans hO2).trans hO3⟩
  · rw [if_neg he] at hfr
    obtain rfl : e1 = 0 := by omega
    obtain ⟨rfl, hpq, hqn, hN⟩ := number_ok hnum hlt.2.2.2
    by_cases hb : m < N
    · rw [if_pos hb] at hfr
      subst hfr
      dsimp only
      have hb' : decide ((m : Int) < (N : Int)) = true := by simp; omega
      clear hT hnum hgt h
      go_enter Try.func30, Try.ntmps30
      go_wp2_with fail
      refine hu.mono ?_
      rintro x w1 ⟨rfl, hR1, hO1⟩
      have hgl1 := lt_of_heap (hR1.2.choose_spec.choose_spec.2.1)
      have hf := fail_any hR1 4
      rw [if_pos rfl] at hf
      clear hu
      go_wp2_with fail
      refine hf.mono ?_
      rintro x w2 ⟨rfl, hR2, hO2⟩
      clear hf
      go_wp2_with fail
      go_ret
      exact ⟨none, 0, 0, rfl, Bs.nil _, hR2, hO1.trans hO2⟩
    · rw [if_neg hb] at hfr
      have hb' : decide ((m : Int) < (N : Int)) = false := by simp; omega
      obtain ⟨n, hn⟩ : ∃ n, L.length - p = n := ⟨_, rfl⟩
      obtain ⟨r, hr⟩ : ∃ r, n - S = r := ⟨_, rfl⟩
      have hsub : (n : Int) - (S : Int) = (r : Int) := by omega
      have hwi : IntKind.i64.wrap (r : Int) = (r : Int) := IntWalk.i64_in _ (by omega)
      have hwr : IntKind.u64.wrap (r : Int) = (r : Int) := wrapr (by omega)
      have hwN : IntKind.i64.wrap (N : Int) = (N : Int) := IntWalk.i64_in _ (by omega)
      have HN := Lib.hid hn
      by_cases hs : L.length - q < N
      · rw [if_pos hs] at hfr
        subst hfr
        dsimp only
        have hs' : decide ((r : Int) < (N : Int)) = true := by simp; omega
        have hs'' : r < N := by omega
        clear hT hnum hgt h hn hr
        go_enter Try.func30, Try.ntmps30
        go_wp2_with fail
        refine hu.mono ?_
        rintro x w1 ⟨rfl, hR1, hO1⟩
        obtain ⟨d1, k1, -, hg1, -⟩ := id hR1.2
        have hgl1 := lt_of_heap hg1
        have z0 := cell_of hg1 0
        rw [HN.out] at z0
        have hf := fail_any hR1 2
        rw [if_pos rfl] at hf
        clear hu hg1
        go_wp2_with fail
        refine hf.mono ?_
        rintro x w2 ⟨rfl, hR2, hO2⟩
        clear hf z0
        go_wp2_with fail
        go_ret
        exact ⟨none, 0, 0, rfl, Bs.nil _, hR2, hO1.trans hO2⟩
      · rw [if_neg hs] at hfr
        subst hfr
        have hs' : decide ((r : Int) < (N : Int)) = false := by simp; omega
        have hs'' : decide (r < N) = false := by simp; omega
        have hn1 := fun (wx : World) (hR : Rd lo hi wx g L p 0) => next_any hR h1 (m := S) (by omega)
        rw [take_skip (by omega)] at hn1
        dsimp only at hn1
        rw [← hq] at hn1
        have hn2 := fun (wx : World) (hR : Rd lo hi wx g L q 0) => next_any hR h1 (m := N) (by omega)
        clear hT hnum hgt h hn hr
        go_enter Try.func30, Try.ntmps30
        go_wp2_with fail
        refine hu.mono ?_
        rintro x w1 ⟨rfl, hR1, hO1⟩
        obtain ⟨d1, k1, -, hg1, -⟩ := id hR1.2
        have hgl1 := lt_of_heap hg1
        have z0 := cell_of hg1 0
        rw [HN.out] at z0
        have H1 := hn1 w1 hR1
        clear hu hg1
        go_wp2_with fail
        refine H1.mono ?_
        rintro x w2 ⟨a2, n2, c2, rfl, -, hR2, hO2⟩
        have H2 := hn2 w2 hR2
        have hgl2 := Nat.lt_of_lt_of_le hgl1 hO2.size
        clear z0 H1 hR1
        go_wp2_with fail
        refine H2.mono ?_
        rintro x w3 ⟨a3, n3, c3, rfl, hB3, hR3, hO3⟩
        clear H2 hR2
        go_wp2_with fail
        go_ret
        exact ⟨a3, n3, c3, rfl, hB3, hR3, (hO1.trans hO2).trans hO3⟩

/-- A row of the call's own is one over an older base. -/
theorem own_base {w : World} {b b' : Nat} {e : TypeId} {s n : Nat} {v : Value} {xs : List Value} (h : w.ownsRow b e s v n xs) (hb : b' ≤ b) : w.ownsRow b' e s v n xs := by
  refine ⟨h.1, ?_⟩
  rcases h.2 with h | ⟨g, cap, cur, h1, h2, h3⟩
  · exact .inl h
  · exact .inr ⟨g, cap, cur, h1, Nat.le_trans hb h2, h3⟩

set_option maxRecDepth 100000 in
theorem byte_any {lo hi g p e : Nat} {w : World} {L : List Nat} (h : Rd lo hi w g L p e) (h1 : L.length < 1000000) :
    Calls Try.prog 10 #[.pointer (some ⟨g, 0, none⟩)] w fun f w' => f = .returned (.int .u8 (((take L p e 1).2.2.headD 0 : Nat) : Int)) ∧ Rd lo hi w' g L (take L p e 1).1 (take L p e 1).2.1 ∧ Off lo hi w w' := by
  have hn := next_any h h1 (m := 1) (by omega)
  have hgl := lt_of_heap (h.2.choose_spec.choose_spec.2.1)
  have ho := take_one (L := L) (p := p) (e := e)
  rw [show ((1 : Nat) : Int) = 1 from rfl] at hn
  obtain ⟨q, e2, T, hT⟩ : ∃ q e2 T, take L p e 1 = (q, e2, T) := ⟨_, _, _, rfl⟩
  rw [hT] at hn ho ⊢
  dsimp only at hn ho ⊢
  clear hT h
  go_enter Try.func10, Try.ntmps10
  go_wp2_with fail
  refine hn.mono ?_
  rintro x w1 ⟨a1, n1, c1, rfl, hB1, hR1, hO1⟩
  rcases ho with rfl | ⟨y, rfl⟩
  · obtain rfl : n1 = 0 := by
      obtain ⟨-, _, _, he, -, -⟩ := hB1
      injection he
    clear hB1 hn
    go_wp2_with fail
    go_ret
    exact ⟨rfl, hR1, hO1⟩
  · obtain rfl : n1 = 1 := by
      obtain ⟨-, _, _, he, -, -⟩ := id hB1
      injection he
    obtain ⟨ug, uo, rfl, hcy⟩ : ∃ ug uo, a1 = some ⟨ug, uo, none⟩ ∧ w1.cell? ⟨ug, uo, none⟩ = some (.int .u8 (y : Int)) := by
      obtain ⟨-, a2, c2, he, -, hcs⟩ := hB1
      injection he with f1 _ _
      subst f1
      obtain ⟨ug, uo, rfl, _, hcs⟩ := hcs.resolve_left (by simp)
      exact ⟨ug, uo, rfl, hcs 0 y rfl⟩
    clear hB1 hn
    go_wp2_with fail
    go_ret
    exact ⟨rfl, hR1, hO1⟩

set_option maxRecDepth 100000 in
theorem mnumber_any {lo hi g p e : Nat} {w : World} {L : List Nat} (h : Rd lo hi w g L p e) (h1 : L.length < 1000000) :
    Calls Try.prog 12 #[.pointer (some ⟨g, 0, none⟩)] w fun f w' => f = .returned (.int .u64 ((number L p e).2.2 : Int)) ∧ Rd lo hi w' g L (number L p e).1 (number L p e).2.1 ∧ Off lo hi w w' := by
  obtain ⟨q, e1, N, hnum⟩ : ∃ q e1 N, number L p e = (q, e1, N) := ⟨_, _, _, rfl⟩
  obtain ⟨S, hgt, hq⟩ := number_as hnum
  have hu := number_un h h1 hgt
  have hlt := h.lt
  have hS : S ≤ L.length ∧ take L p e1 (S : Int) = (q, e1, (take L p e1 (S : Int)).2.2) := by
    by_cases he : e1 ≠ 0
    · obtain ⟨hqp, rfl⟩ := number_err hnum he
      obtain rfl : S = 0 := by omega
      rw [take_zero]
      exact ⟨Nat.zero_le _, by rw [hqp]⟩
    · obtain rfl : e1 = 0 := by omega
      obtain ⟨rfl, hpq, hqn, hN⟩ := number_ok hnum hlt.2.2.2
      rw [take_skip (by omega), hq]
      exact ⟨by omega, rfl⟩
  rw [hnum]
  dsimp only
  have hn := fun (wx : World) (hR : Rd lo hi wx g L p e1) => next_any hR h1 (m := S) (by omega)
  rw [hS.2] at hn
  dsimp only at hn
  clear hS hgt hnum hlt h
  go_enter Try.func12, Try.ntmps12
  go_wp2_with fail
  refine hu.mono ?_
  rintro x w1 ⟨rfl, hR1, hO1⟩
  have H1 := hn w1 hR1
  have hgl1 := lt_of_heap (hR1.2.choose_spec.choose_spec.2.1)
  clear hu hn
  go_wp2_with fail
  refine H1.mono ?_
  rintro x w2 ⟨a2, n2, c2, rfl, -, hR2, hO2⟩
  go_wp2_with fail
  go_ret
  exact ⟨rfl, hR2, hO1.trans hO2⟩

theorem max_nat {n : Int} (h1 : n ≤ 9223372036854775807) : ∃ m : Nat, max n 0 = (m : Int) ∧ m ≤ 9223372036854775807 ∧ m = n.toNat := ⟨n.toNat, by omega, by omega, rfl⟩
theorem take_nat {L : List Nat} {p e m : Nat} {n : Int} (h : m = n.toNat) : take L p e n = take L p e (m : Int) := by
  subst h
  unfold take
  by_cases h0 : e ≠ 0 ∨ n ≤ 0
  · rw [if_pos h0, if_pos (by omega)]
  · have h2 : ((n.toNat : Nat) : Int) = n := by omega
    rw [if_neg h0, if_neg (show ¬ (e ≠ 0 ∨ ((n.toNat : Nat) : Int) ≤ 0) by omega), h2]
theorem frame_nat {L : List Nat} {p e m : Nat} {n : Int} (h : m = n.toNat) : frame L p e n = frame L p e (m : Int) := by
  subst h
  unfold frame
  rw [Int.toNat_natCast]

set_option maxRecDepth 100000 in
set_option maxHeartbeats 1000000 in
theorem mtake_any {lo hi g p e : Nat} {w : World} {L : List Nat} {n : Int} (h : Rd lo hi w g L p e) (h1 : L.length < 1000000) (_hn0 : -9223372036854775808 ≤ n) (hn1 : n ≤ 9223372036854775807) :
    Calls Try.prog 13 #[.pointer (some ⟨g, 0, none⟩), .int .i64 n] w fun f w' => ∃ a' N' c', f = .returned (.slice a' N' c') ∧ w'.ownsRow w.heap.size 5 1 (.slice a' N' c') (take L p e n).2.2.length (bytesV (take L p e n).2.2) ∧ Rd lo hi w' g L (take L p e n).1 (take L p e n).2.1 ∧ Off lo hi w w' := by
  obtain ⟨m, hm, hm1, hmn⟩ := max_nat hn1
  have hl := take_any_len (L := L) (p := p) (e := e) (m := n)
  have hn := next_any h h1 hm1
  rw [← take_nat hmn] at hn
  have hgl := lt_of_heap (h.2.choose_spec.choose_spec.2.1)
  obtain ⟨q, e2, T, hT⟩ : ∃ q e2 T, take L p e n = (q, e2, T) := ⟨_, _, _, rfl⟩
  rw [hT] at hn hl ⊢
  dsimp only at hn hl ⊢
  clear hT h hmn
  go_enter Try.func13, Try.ntmps13
  go_wp2_with fail
  refine hn.mono ?_
  rintro x w1 ⟨a1, n1, c1, rfl, hB1, hR1, hO1⟩
  have hc := clone_any hB1 (by omega)
  clear hn
  go_wp2_with fail
  refine hc.mono ?_
  rintro x w2 ⟨a2, c2, rfl, ho, k2⟩
  have hR2 := hR1.keep k2.size (fun k _ hk => k2.block k (by have := hR1.lt; omega))
  go_wp2_with fail
  go_ret
  exact ⟨a2, _, c2, rfl, own_base ho hO1.size, hR2, hO1.trans (Off.of_below k2)⟩

set_option maxRecDepth 100000 in
set_option maxHeartbeats 1000000 in
theorem mframe_own {lo hi g p e : Nat} {w : World} {L : List Nat} {n : Int} (h : Rd lo hi w g L p e) (h1 : L.length < 1000000) (_hn0 : -9223372036854775808 ≤ n) (hn1 : n ≤ 9223372036854775807) :
    Calls Try.prog 16 #[.pointer (some ⟨g, 0, none⟩), .int .i64 n] w fun f w' => ∃ a' N' c', f = .returned (.slice a' N' c') ∧ w'.ownsRow w.heap.size 5 1 (.slice a' N' c') (frame L p e n).2.2.length (bytesV (frame L p e n).2.2) ∧ Bs w' (.slice a' N' c') (frame L p e n).2.2 ∧ Rd lo hi w' g L (frame L p e n).1 (frame L p e n).2.1 ∧ Off lo hi w w' := by
  obtain ⟨m, hm, hm1, hmn⟩ := max_nat hn1
  have hl := frame_any_len (L := L) (p := p) (e := e) (most := n)
  have hn := content_any h h1 hm1
  rw [← frame_nat hmn] at hn
  obtain ⟨q, e2, T, hT⟩ : ∃ q e2 T, frame L p e n = (q, e2, T) := ⟨_, _, _, rfl⟩
  rw [hT] at hn hl ⊢
  dsimp only at hn hl ⊢
  clear hT h hmn
  go_enter Try.func16, Try.ntmps16
  go_wp2_with fail
  refine hn.mono ?_
  rintro x w1 ⟨a1, n1, c1, rfl, hB1, hR1, hO1⟩
  have hc := clone_any hB1 (by omega)
  clear hn
  go_wp2_with fail
  refine hc.mono ?_
  rintro x w2 ⟨a2, c2, rfl, ho, k2⟩
  have hR2 := hR1.keep k2.size (fun k _ hk => k2.block k (by have := hR1.lt; omega))
  have hb2 := bs_of_own hB1.1 ho
  go_wp2_with fail
  go_ret
  exact ⟨a2, _, c2, rfl, own_base ho hO1.size, hb2, hR2, hO1.trans (Off.of_below k2)⟩
theorem mframe_any {lo hi g p e : Nat} {w : World} {L : List Nat} {n : Int} (h : Rd lo hi w g L p e) (h1 : L.length < 1000000) (hn0 : -9223372036854775808 ≤ n) (hn1 : n ≤ 9223372036854775807) :
    Calls Try.prog 16 #[.pointer (some ⟨g, 0, none⟩), .int .i64 n] w fun f w' => ∃ a' N' c', f = .returned (.slice a' N' c') ∧ Bs w' (.slice a' N' c') (frame L p e n).2.2 ∧ Rd lo hi w' g L (frame L p e n).1 (frame L p e n).2.1 ∧ Off lo hi w w' :=
  (mframe_own h h1 hn0 hn1).mono fun _ _ => fun ⟨a', N', c', h1, _, h2⟩ => ⟨a', N', c', h1, h2⟩

set_option maxRecDepth 100000 in
theorem mtext_any {lo hi g p e : Nat} {w : World} {L : List Nat} (h : Rd lo hi w g L p e) (h1 : L.length < 1000000) :
    Calls Try.prog 17 #[.pointer (some ⟨g, 0, none⟩)] w fun f w' => f = .returned (.string (textOf (frame L p e 1048576).2.2)) ∧ Rd lo hi w' g L (frame L p e 1048576).1 (frame L p e 1048576).2.1 ∧ Off lo hi w w' := by
  have hn := content_any h h1 (m := 1048576) (by omega)
  rw [show ((1048576 : Nat) : Int) = 1048576 from rfl] at hn
  obtain ⟨q, e2, T, hT⟩ : ∃ q e2 T, frame L p e 1048576 = (q, e2, T) := ⟨_, _, _, rfl⟩
  rw [hT] at hn ⊢
  dsimp only at hn ⊢
  clear hT h
  go_enter Try.func17, Try.ntmps17
  go_wp2_with fail
  refine hn.mono ?_
  rintro x w1 ⟨a1, n1, c1, rfl, hB1, hR1, hO1⟩
  have hcv := convert_text hB1
  go_wp2_with fail
  go_ret
  exact ⟨rfl, hR1, hO1⟩
end Go.Proofs.Ytkbdahbnjklkoaa.Frm
