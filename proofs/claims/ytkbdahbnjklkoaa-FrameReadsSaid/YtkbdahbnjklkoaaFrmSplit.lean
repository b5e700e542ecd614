/- The contract of tabulariumref05.Split. Nothing is claimed here. -/
import Derived.Test.YtkbdahbnjklkoaaFrmFrame
import Derived.Test.YtkbdahbnjklkoaaSlices
namespace Go.Proofs.Ytkbdahbnjklkoaa.Frm
open Go.RowKit Kit Byt Var Sls

set_option maxRecDepth 100000 in
set_option maxHeartbeats 4000000 in
theorem rsplit_is {w : World} {a : Option Addr} {n c : Nat} {L : List Nat} {T : List (List Nat) × Nat} (hn : L.length = n) (hx : Bs w (.slice a n c) L) (h1 : n < 1000000) (hT : split L 0 = T) :
    Calls Try.prog 22 #[.slice a n c] w fun f w' => ∃ a' N' c', f = .returned (.tuple #[.slice a' N' c', .int .i64 T.2]) ∧ Ss w' (.slice a' N' c') T.1 ∧ Below w.heap.size w w' := by
  have H0 := Lib.hid hn
  have hM : Mid L 0 [] T := (join_start L).trans hT
  clear hT
  go_enter Try.func22, Try.ntmps22
  go_wp2_with fail
  go_loopw [4] (fun o wr => ∃ (p : Nat) (pre : List (List Nat)) (vs : List Value), p ≤ n ∧ wr.heap[w.heap.size]? = some (.cells #[.slice a n c, .int .i64 p, .int .i64 0] 28 (0, 0)) ∧ pre.length ≤ p ∧
    Mid L p pre T ∧ wr.ownsRow (w.heap.size + 1) 22 1 o pre.length vs ∧ Parts w vs pre ∧ Below w.heap.size w wr) (fun _ wr => n - (intOf ((wr.cell? ⟨w.heap.size, 1, none⟩).getD undef)).toNat)
  case atStart =>
    exact ⟨0, [], [], Nat.zero_le _, World.alloc_heap_new w _, Nat.le_refl _, hM, World.ownsRow_nil _ _ _ _, Parts.nil w, (Below.refl _ _).alloc (Nat.le_refl _) _⟩
  case round =>
    obtain ⟨p, pre, vs, hp, hr, hpl, hj, ho, hpt, hbel⟩ := hrel
    have c0 := cell_of hr 0
    have c1 := cell_of hr 1
    have c2 := cell_of hr 2
    have hpn : p ≤ L.length := by rw [H0.out]; exact hp
    have hz := hbel.size
    have hzr := lt_of_heap hr
    by_cases hlt : p < n
    · have hlt' : (p : Int) < (n : Int) := by omega
      obtain ⟨q, E, B, hf⟩ : ∃ q E B, frame L p 0 most = (q, E, B) := ⟨_, _, _, rfl⟩
      have hpL : p < L.length := by rw [H0.out]; exact hlt
      have hfr := rframe_any (w := wr) (e := 0) (most := most) H0.out (hx.below hbel) h1 hp (by decide)
      rw [hf] at hfr
      unfold rdV gotV most at hfr
      dsimp only at hfr
      have hok := frame_ok (L := L) (p := p) (most := most)
      rw [hf] at hok
      dsimp only at hok
      have hend : (((E : Int) != 0) = true ∧ T = ([], E)) ∨ (E = 0 ∧ p < q ∧ q ≤ n ∧ Mid L q (pre ++ [B]) T) := by
        by_cases hE : E = 0
        · subst hE
          have := hok rfl hpn
          rw [H0.out] at this
          exact .inr ⟨rfl, this.1, this.2, hj.next hpL hf⟩
        · exact .inl ⟨by simp; omega, hj.bad hpL hf hE⟩
      clear hok hf hj hpn hpL hn
      have HM := Lib.hid hend
      clear hend
      go_wp2_with fail
      refine hfr.mono ?_
      rintro f w2 ⟨ua, uN, uc, rfl, hu, k2⟩
      have HU := Lib.hid hu
      clear hu hfr
      have b2 := hbel.trans (k2.mono hz)
      have hr2 := (k2.block _ hzr).trans hr
      have ho2 : w2.ownsRow (w.heap.size + 1) 22 1 u4 pre.length vs := own_below ho k2
      have hz2 := lt_of_heap hr2
      have HP := Lib.hid c1
      clear c0 c1 c2 k2 hr hzr
      have f0 := free_of hr2 0
      have f1 := free_of hr2 1
      have f2 := free_of hr2 2
      have c0 := cell_of hr2 0
      have c1 := cell_of hr2 1
      have c2 := cell_of hr2 2
      rcases HM.out with ⟨hE, hTE⟩ | ⟨rfl, hpq, hqn, hM'⟩
      · have HT := Lib.hid hTE
        clear hTE HM
        go_wp2_with fail
        go_quiet (fail)
        go_wp2_with fail
        go_ret2
        have hT := HT.out
        subst hT
        exact ⟨none, 0, 0, rfl, ⟨none, 0, rfl, Nat.le_refl _, .inl rfl⟩, below_drewN (b2.alloc b2.size _) _⟩
      · have HN := Lib.hid hM'
        clear hM' HM
        have ho4 := (ho2.alloc (.cells #[.slice a n c, .int .i64 q, .int .i64 0, .int .u64 0, .slice ua uN uc] 33)).alloc (.cells #[.slice ua uN uc] 22)
        have hb4 := World.alloc_heap_new (w2.alloc (.cells #[.slice a n c, .int .i64 q, .int .i64 0, .int .u64 0, .slice ua uN uc] 33)) (.cells #[.slice ua uN uc] 22)
        rw [World.size_alloc] at hb4
        have hx4 : ((w2.alloc (.cells #[.slice a n c, .int .i64 q, .int .i64 0, .int .u64 0, .slice ua uN uc] 33)).alloc (.cells #[.slice ua uN uc] 22)).heap[w2.heap.size]? = _ := new_of (World.alloc_heap_new w2 _) _
        have hr4 : ((w2.alloc (.cells #[.slice a n c, .int .i64 q, .int .i64 0, .int .u64 0, .slice ua uN uc] 33)).alloc (.cells #[.slice ua uN uc] 22)).heap[w.heap.size]? = _ := new_of (new_of hr2 _) _
        have b4 := (b2.alloc b2.size (.cells #[.slice a n c, .int .i64 q, .int .i64 0, .int .u64 0, .slice ua uN uc] 33)).alloc (by simp; omega) (.cells #[.slice ua uN uc] 22)
        go_wp2_with (at_builtin; refine wp_append_one rfl _ _ rfl (w.heap.size + 1) rfl rfl ho4 hb4 ?d1 ?d2 ?_)
        case d1 => omega
        case d2 => simp; omega
        intro v5 w5 ho5 hg5
        have hr5 := (hg5.block w.heap.size (lt_of_heap hr4) (fun e => by have := (ho2.lt _ e.symm).1; omega)).trans hr4
        have hx5 := (hg5.block w2.heap.size (lt_of_heap hx4) (fun e => by have := (ho2.lt _ e.symm).2; omega)).trans hx4
        have b5 : Below w.heap.size w w5 := b4.grown hg5 (by simp; omega) (fun j e => by have := (ho2.lt j e).1; omega)
        clear f0 f1 f2 c0 c1 c2
        have f0 := free_of hr5 0
        have f1 := free_of hr5 1
        have f2 := free_of hr5 2
        have c0 := cell_of hr5 0
        have c1 := cell_of hr5 1
        have c2 := cell_of hr5 2
        have x0 := cell_of hx5 0
        have x1 := cell_of hx5 1
        have x2 := cell_of hx5 2
        go_wp2_with fail
        go_roundw
        case rel =>
          refine ⟨q, pre ++ [B], vs ++ [.slice ua uN uc], hqn, set_of (set_of (set_of hr5 0 _) 1 _) 2 _, by simp; omega, HN.out, ?_, hpt.snoc (HU.out w hx), ?_⟩
          · rw [List.length_append]
            exact own_set (own_set (own_set ho5 (by omega)) (by omega)) (by omega)
          · iterate 3 refine Below.setCell ?_ (by simp) _
            exact b5
        case measure =>
          have m1 := cell_of (set_of (set_of (set_of hr5 0 (.slice a n c)) 1 (.int .i64 (q : Int))) 2 (.int .i64 0)) 1
          rw [m1, HP.out]
          simp [intOf]
          omega
    · obtain rfl : p = n := by omega
      have hT := hj.done (by rw [H0.out]; exact Nat.le_refl _)
      obtain ⟨oa, oc, rfl, _⟩ := own_slice ho
      have hss : Ss wr (.slice oa pre.length oc) pre := ss_of_own ho rfl (hpt.mono fun u l _ k => k.below hbel)
      go_wp2_with fail
      go_ret2
      subst hT
      exact ⟨oa, _, oc, rfl, hss, hbel⟩

end Go.Proofs.Ytkbdahbnjklkoaa.Frm
