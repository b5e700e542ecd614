/- The walk of FrameReads, over the contracts of package frame's Reader (XFrmRdr: Rd, and what each call does to it). Nothing is claimed here. -/
import Derived.Test.YtkbdahbnjklkoaaFrmRdr
import Derived.Test.YtkbdahbnjklkoaaFrmLawA
import Derived.Test.YtkbdahbnjklkoaaFrmOps
import Derived.IntWalk
namespace Go.Proofs.Ytkbdahbnjklkoaa.Frm
open Go.RowKit Kit Byt Var Sls

theorem Rd.set {lo hi g a e X i : Nat} {w : World} {L : List Nat} (h : Rd lo hi w g L a e) (hX : hi ≤ X) (v : Value) : Rd lo hi (w.setCell ⟨X, i, none⟩ v) g L a e :=
  h.keep (grown_set w X i v).size fun k _ h2 => (grown_set w X i v).block k (by have := h.lt; omega) (by intro e; injection e with e; omega)

set_option maxRecDepth 100000 in
set_option maxHeartbeats 8000000 in
theorem reads_law {w : World} {a b : Option Addr} {n m ca cb : Nat} {L : List Nat} {O : List (Nat × Int)} (hn : L.length = n) (hm : O.length = m) (hx : Bs w (.slice a n ca) L) (hy : Opl w (.slice b m cb) O) :
    Calls Try.prog 3 #[.slice a n ca, .slice b m cb] w fun e w' => e = .returned (.bool true) ∧ Below w.heap.size w w' := by
  have hw := wakes_any (w := w)
  by_cases hs : 300 < n ∨ 60 < m
  · have hcase : decide ((300 : Int) < (n : Int)) = true ∨ (decide ((300 : Int) < (n : Int)) = false ∧ decide ((60 : Int) < (m : Int)) = true) := by
      simp
      omega
    clear hs hn hm
    rcases hcase with h | ⟨h, h'⟩
    all_goals
      go_enter Try.func3, Try.ntmps3
      go_wp2_with fail
      refine hw.mono ?_
      rintro e w1 ⟨rfl, k1⟩
      go_wp2_with fail
      go_ret
      exact ⟨rfl, k1⟩
  have hs1 : decide ((300 : Int) < (n : Int)) = false := by simp; omega
  have hs2 : decide ((60 : Int) < (m : Int)) = false := by simp; omega
  have hn300 : n ≤ 300 := by omega
  have hm60 : m ≤ 60 := by omega
  have H0 := Lib.hid hn
  have H1 := Lib.hid hm
  clear hs hn hm
  go_enter Try.func3, Try.ntmps3
  go_wp2_with fail
  refine hw.mono ?_
  rintro e w1 ⟨rfl, k1⟩
  have hx1 := hx.below k1
  have hy1 := hy.below k1
  go_wp2_with fail
  refine (new_any hx1 (by rw [H0.out]; omega)).mono ?_
  rintro e w2 ⟨g, hi, rfl, hR2, k2⟩
  have b2 := k1.trans (k2.mono k1.size)
  have hx2 := hx1.below k2
  have hy2 := hy1.below k2
  obtain ⟨hlg, hgh, hhw, -⟩ := hR2.lt
  have hz1 := k1.size
  obtain ⟨lo, hlo⟩ : ∃ lo, w1.heap.size = lo := ⟨_, rfl⟩
  rw [hlo] at hR2 hlg hz1
  clear hlo
  obtain ⟨X, hX⟩ : ∃ X, w2.heap.size = X := ⟨_, rfl⟩
  have HX := Lib.hid hX
  rw [hX] at hhw
  clear hX
  go_wp2_with fail
  rw [HX.out]
  go_loopw [36] (fun i wr => ∃ (k p e : Nat), k ≤ m ∧ i = .int .i64 k ∧ p ≤ n ∧ wr.heap[X]? = some (.cells #[.slice a n ca, .int .i64 p, .int .i64 e] 28 (0, 0)) ∧ Rd lo hi wr g L p e ∧ Below w.heap.size w wr) (fun i _ => m - (intOf i).toNat)
  case atStart =>
    have h0 := World.alloc_heap_new w2 (.cells #[.slice a n ca, .int .i64 0, .int .i64 0] 28)
    rw [HX.out] at h0
    exact ⟨0, 0, 0, Nat.zero_le _, rfl, Nat.zero_le _, h0, hR2.keep (by simp) (fun k h1 h2 => Below.heap_alloc _ _ _ (by rw [HX.out]; omega)), b2.alloc b2.size _⟩
  case round =>
    obtain ⟨k, p, e, hk, rfl, hp, hX, hR, hbel⟩ := hrel
    by_cases hlt : k < m
    · have hkl : k < O.length := by rw [H1.out]; exact hlt
      obtain ⟨og, oo, K, N, rfl, hog, -, hK, hN0, hN1, hc1, hc2⟩ := (hy.below hbel).at hkl
      have hlt' : (k : Int) < (m : Int) := by omega
      have hzr := hbel.size
      have hXr := lt_of_heap hX
      have hhX : hi ≤ X := hhw
      have hzl : w.heap.size ≤ lo := hz1
      have hX1 : (wr.alloc (.cells #[.int .u8 (K : Int), .int .i64 N] 30)).heap[X]? = _ := new_of hX _
      have x0 := cell_of hX 0
      have x1 := cell_of hX 1
      have x2 := cell_of hX 2
      have hR1 : Rd lo hi (wr.alloc (.cells #[.int .u8 (K : Int), .int .i64 N] 30)) g L p e := hR.keep (by simp) (fun k h1 h2 => Below.heap_alloc _ _ _ (by omega))
      have b1 := hbel.alloc hzr (.cells #[.int .u8 (K : Int), .int .i64 N] 30)
      have hx1' := hx.below b1
      have hK6 : K % 6 = 0 ∨ K % 6 = 1 ∨ K % 6 = 2 ∨ K % 6 = 3 ∨ K % 6 = 4 ∨ K % 6 = 5 := by omega
      have HK := Lib.hid hK6
      clear hK6 hX hR
      rcases HK.out with hK6 | hK6 | hK6 | hK6 | hK6 | hK6
      · have hk6 : (K : Int) % 6 = 0 := by omega
        clear hK6
        obtain ⟨q, e2, T, hT⟩ : ∃ q e2 T, take L p e 1 = (q, e2, T) := ⟨_, _, _, rfl⟩
        have ht := rtake_any (w := (wr.alloc (.cells #[.int .u8 (K : Int), .int .i64 N] 30))) (e := e) (m := 1) H0.out hx1' (by omega) hp
        rw [hT] at ht
        unfold rdV gotV at ht
        dsimp only at ht
        have hB := fun (wx : World) (h : Rd lo hi wx g L p e) => byte_any h (by rw [H0.out]; omega)
        rw [hT] at hB
        dsimp only at hB
        have hTl := take_one (L := L) (p := p) (e := e)
        rw [hT] at hTl
        dsimp only at hTl
        clear hT
        go_wp2_with fail
        refine ht.mono ?_
        rintro f w2 ⟨ua, uN, uc, rfl, hu, k2⟩
        have b2' := b1.trans (k2.mono b1.size)
        have hX2 := (k2.block X (lt_of_heap hX1)).trans hX1
        have hR2 := hR1.keep k2.size (fun k _ h2 => k2.block k (by have := lt_of_heap hX1; omega))
        have HU := Lib.hid hu
        have hX3 : (w2.alloc (.cells #[.slice a n ca, .int .i64 (q : Int), .int .i64 (e2 : Int), .int .u64 0, .slice ua uN uc] 33)).heap[X]? = _ := new_of hX2 _
        have hG3 := World.alloc_heap_new w2 (.cells #[.slice a n ca, .int .i64 (q : Int), .int .i64 (e2 : Int), .int .u64 0, .slice ua uN uc] 33)
        have hGX := lt_of_heap hX2
        have hR3 : Rd lo hi (w2.alloc (.cells #[.slice a n ca, .int .i64 (q : Int), .int .i64 (e2 : Int), .int .u64 0, .slice ua uN uc] 33)) g L p e := hR2.keep (by simp) (fun k h1 h2 => Below.heap_alloc _ _ _ (by omega))
        have b3 := b2'.alloc b2'.size (.cells #[.slice a n ca, .int .i64 (q : Int), .int .i64 (e2 : Int), .int .u64 0, .slice ua uN uc] 33)
        clear hu ht hX1 hR1 x0 x1 x2
        have hB3 := hB _ hR3
        clear hB
        go_wp2_with fail
        refine hB3.mono ?_
        rintro f w4 ⟨rfl, hR4, hO4⟩
        have hX4 := hO4.heap hX3 (.inr hhX)
        have hG4 := hO4.heap hG3 (.inr (by omega))
        have b4 := b3.trans (hO4.below hzl b3.size)
        have hu4 := HU.out w4 (hx.below b4)
        have hR5 := ((hR4.set (i := 0) hhX (.slice a n ca)).set (i := 1) hhX (.int .i64 (q : Int))).set (i := 2) hhX (.int .i64 (e2 : Int))
        have hX5 := set_of (set_of (set_of hX4 0 (.slice a n ca)) 1 (.int .i64 (q : Int))) 2 (.int .i64 (e2 : Int))
        have b5 := ((b4.setCell (p := ⟨X, 0, none⟩) (by show w.heap.size ≤ X; omega) (.slice a n ca)).setCell (p := ⟨X, 1, none⟩) (by show w.heap.size ≤ X; omega) (.int .i64 (q : Int))).setCell (p := ⟨X, 2, none⟩) (by show w.heap.size ≤ X; omega) (.int .i64 (e2 : Int))
        have y0 := cell_of hX4 0
        have y1 := cell_of hX4 1
        have y2 := cell_of hX4 2
        have f0 := free_of hX4 0
        have f1 := free_of hX4 1
        have f2 := free_of hX4 2
        have g0 := cell_of hG4 0
        have g1 := cell_of hG4 1
        have g2 := cell_of hG4 2
        have g3 := cell_of hG4 3
        have g4 := cell_of hG4 4
        clear hB3
        rcases hTl with rfl | ⟨y, rfl⟩
        · obtain rfl : uN = 0 := by
            obtain ⟨_, _, _, he, _⟩ := id hu4
            injection he
          clear hu4
          go_wp2_with fail
          have hq : q ≤ n := by have := hR5.lt; rw [H0.out] at this; exact this.2.2.2
          obtain ⟨r, hr⟩ : ∃ r : Nat, n - q = r := ⟨_, rfl⟩
          have hsub : (n : Int) - (q : Int) = (r : Int) := by omega
          have hwr : IntKind.i64.wrap (r : Int) = (r : Int) := IntWalk.i64_in _ (by omega)
          have hL6 := mleft_any (w := World.drew (((w4.setCell ⟨X, 0, none⟩ (.slice a n ca)).setCell ⟨X, 1, none⟩ (.int .i64 (q : Int))).setCell ⟨X, 2, none⟩ (.int .i64 (e2 : Int)))) (hR5.keep (Nat.le_refl _) (fun _ _ _ => rfl)) (by rw [H0.out]; omega)
          rw [H0.out, hr] at hL6
          have hXd : (World.drew (((w4.setCell ⟨X, 0, none⟩ (.slice a n ca)).setCell ⟨X, 1, none⟩ (.int .i64 (q : Int))).setCell ⟨X, 2, none⟩ (.int .i64 (e2 : Int)))).heap[X]? = some (.cells #[.slice a n ca, .int .i64 (q : Int), .int .i64 (e2 : Int)] 28 (0, 0)) := hX5
          have z1 := cell_of hX5 1
          have z2 := cell_of hX5 2
          have bd : Below w.heap.size w (World.drew (((w4.setCell ⟨X, 0, none⟩ (.slice a n ca)).setCell ⟨X, 1, none⟩ (.int .i64 (q : Int))).setCell ⟨X, 2, none⟩ (.int .i64 (e2 : Int)))) := below_drewN b5 1
          have HQ := Lib.hid hq
          clear hr hX5 hR5 hq
          go_region_held3 (fun wx => wx.cell? ⟨X, 1, none⟩ = some (.int .i64 (q : Int)) ∧ wx.cell? ⟨X, 2, none⟩ = some (.int .i64 (e2 : Int)))
            (first | assumption | go_keep)
            (first
              | (go_at_call 19; refine hL6.mono ?_; rintro f wx ⟨rfl, hRx, hOx⟩; have hXx := hOx.heap hXd (.inr hhX); have n1 := cell_of hXx 1; have n2 := cell_of hXx 2; have bx := bd.trans ((hOx.below hzl bd.size)); have hE7 := merr_any hRx (by rw [H0.out]; omega))
              | (go_at_call 20; refine hE7.mono ?_; rintro f wy ⟨rfl, hRy, hOy⟩; have hXy := hOy.heap hXx (.inr hhX); have m1 := cell_of hXy 1; have m2 := cell_of hXy 2; have bY := bx.trans (hOy.below hzl bx.size)))
          go_wp2_with fail
          go_roundw
          case rel => exact ⟨k + 1, q, e2, by omega, by go_num, HQ.out, hXy, hRy, bY⟩
          case measure => simp [intOf]; omega
        · obtain rfl : uN = 1 := by
            obtain ⟨_, _, _, he, _⟩ := id hu4
            injection he
          obtain ⟨-, ua', uc', he, -, hcs⟩ := hu4
          injection he with e1 e3 e4
          subst e1
          clear e3 e4
          obtain ⟨ug, uo, rfl, -, hcs⟩ := hcs.resolve_left (by simp)
          have hcy := hcs 0 y rfl
          rw [Nat.add_zero] at hcy
          clear hcs
          go_wp2_with fail
          have hq : q ≤ n := by have := hR5.lt; rw [H0.out] at this; exact this.2.2.2
          obtain ⟨r, hr⟩ : ∃ r : Nat, n - q = r := ⟨_, rfl⟩
          have hsub : (n : Int) - (q : Int) = (r : Int) := by omega
          have hwr : IntKind.i64.wrap (r : Int) = (r : Int) := IntWalk.i64_in _ (by omega)
          have hL6 := mleft_any (w := World.drew (((w4.setCell ⟨X, 0, none⟩ (.slice a n ca)).setCell ⟨X, 1, none⟩ (.int .i64 (q : Int))).setCell ⟨X, 2, none⟩ (.int .i64 (e2 : Int)))) (hR5.keep (Nat.le_refl _) (fun _ _ _ => rfl)) (by rw [H0.out]; omega)
          rw [H0.out, hr] at hL6
          have hXd : (World.drew (((w4.setCell ⟨X, 0, none⟩ (.slice a n ca)).setCell ⟨X, 1, none⟩ (.int .i64 (q : Int))).setCell ⟨X, 2, none⟩ (.int .i64 (e2 : Int)))).heap[X]? = some (.cells #[.slice a n ca, .int .i64 (q : Int), .int .i64 (e2 : Int)] 28 (0, 0)) := hX5
          have z1 := cell_of hX5 1
          have z2 := cell_of hX5 2
          have bd : Below w.heap.size w (World.drew (((w4.setCell ⟨X, 0, none⟩ (.slice a n ca)).setCell ⟨X, 1, none⟩ (.int .i64 (q : Int))).setCell ⟨X, 2, none⟩ (.int .i64 (e2 : Int)))) := below_drewN b5 1
          have HQ := Lib.hid hq
          clear hr hX5 hR5 hq
          go_region_held3 (fun wx => wx.cell? ⟨X, 1, none⟩ = some (.int .i64 (q : Int)) ∧ wx.cell? ⟨X, 2, none⟩ = some (.int .i64 (e2 : Int)))
            (first | assumption | go_keep)
            (first
              | (go_at_call 19; refine hL6.mono ?_; rintro f wx ⟨rfl, hRx, hOx⟩; have hXx := hOx.heap hXd (.inr hhX); have n1 := cell_of hXx 1; have n2 := cell_of hXx 2; have bx := bd.trans ((hOx.below hzl bd.size)); have hE7 := merr_any hRx (by rw [H0.out]; omega))
              | (go_at_call 20; refine hE7.mono ?_; rintro f wy ⟨rfl, hRy, hOy⟩; have hXy := hOy.heap hXx (.inr hhX); have m1 := cell_of hXy 1; have m2 := cell_of hXy 2; have bY := bx.trans (hOy.below hzl bx.size)))
          go_wp2_with fail
          go_roundw
          case rel => exact ⟨k + 1, q, e2, by omega, by go_num, HQ.out, hXy, hRy, bY⟩
          case measure => simp [intOf]; omega
      · have hk6 : (K : Int) % 6 = 1 := by omega
        clear hK6
        obtain ⟨q, e2, M, hT⟩ : ∃ q e2 M, number L p e = (q, e2, M) := ⟨_, _, _, rfl⟩
        have ht := rnumber_any (w := (wr.alloc (.cells #[.int .u8 (K : Int), .int .i64 N] 30))) (e := e) H0.out hx1' (by omega) hp
        rw [hT] at ht
        unfold rdV gotV at ht
        dsimp only at ht
        have hB := fun (wx : World) (h : Rd lo hi wx g L p e) => mnumber_any h (by rw [H0.out]; omega)
        rw [hT] at hB
        dsimp only at hB
        clear hT
        go_wp2_with fail
        refine ht.mono ?_
        rintro f w2 ⟨rfl, k2⟩
        have b2' := b1.trans (k2.mono b1.size)
        have hX2 := (k2.block X (lt_of_heap hX1)).trans hX1
        have hR2 := hR1.keep k2.size (fun k _ h2 => k2.block k (by have := lt_of_heap hX1; omega))
        have hX3 : (w2.alloc (.cells #[.slice a n ca, .int .i64 (q : Int), .int .i64 (e2 : Int), .int .u64 (M : Int), .slice none 0 0] 33)).heap[X]? = _ := new_of hX2 _
        have hG3 := World.alloc_heap_new w2 (.cells #[.slice a n ca, .int .i64 (q : Int), .int .i64 (e2 : Int), .int .u64 (M : Int), .slice none 0 0] 33)
        have hGX := lt_of_heap hX2
        have hR3 : Rd lo hi (w2.alloc (.cells #[.slice a n ca, .int .i64 (q : Int), .int .i64 (e2 : Int), .int .u64 (M : Int), .slice none 0 0] 33)) g L p e := hR2.keep (by simp) (fun k h1 h2 => Below.heap_alloc _ _ _ (by omega))
        have b3 := b2'.alloc b2'.size (.cells #[.slice a n ca, .int .i64 (q : Int), .int .i64 (e2 : Int), .int .u64 (M : Int), .slice none 0 0] 33)
        clear ht hX1 hR1 x0 x1 x2
        have hB3 := hB (World.drew (w2.alloc (.cells #[.slice a n ca, .int .i64 (q : Int), .int .i64 (e2 : Int), .int .u64 (M : Int), .slice none 0 0] 33))) (hR3.keep (Nat.le_refl _) (fun _ _ _ => rfl))
        have b3d : Below w.heap.size w (World.drew (w2.alloc (.cells #[.slice a n ca, .int .i64 (q : Int), .int .i64 (e2 : Int), .int .u64 (M : Int), .slice none 0 0] 33))) := below_drewN b3 1
        have hXd : (World.drew (w2.alloc (.cells #[.slice a n ca, .int .i64 (q : Int), .int .i64 (e2 : Int), .int .u64 (M : Int), .slice none 0 0] 33))).heap[X]? = some (.cells #[.slice a n ca, .int .i64 (p : Int), .int .i64 (e : Int)] 28 (0, 0)) := hX3
        have hGd : (World.drew (w2.alloc (.cells #[.slice a n ca, .int .i64 (q : Int), .int .i64 (e2 : Int), .int .u64 (M : Int), .slice none 0 0] 33))).heap[w2.heap.size]? = some (.cells #[.slice a n ca, .int .i64 (q : Int), .int .i64 (e2 : Int), .int .u64 (M : Int), .slice none 0 0] 33 (0, 0)) := hG3
        have p3 := cell_of hG3 3
        clear hB
        go_wp2_with fail
        go_region_held3 (fun wx => wx.cell? ⟨w2.heap.size, 3, none⟩ = some (.int .u64 (M : Int)))
          (first | assumption | go_keep)
          (first | (go_at_call 12; refine hB3.mono ?_; rintro f w4 ⟨rfl, hR4, hO4⟩; have hX4 := hO4.heap hXd (.inr hhX); have hG4 := hO4.heap hGd (.inr (by omega)); have b4 := b3d.trans (hO4.below hzl b3d.size); have n3 := cell_of hG4 3))
        clear hB3 p3 n3 hXd hGd
        have hR5 := ((hR4.set (i := 0) hhX (.slice a n ca)).set (i := 1) hhX (.int .i64 (q : Int))).set (i := 2) hhX (.int .i64 (e2 : Int))
        have hX5 := set_of (set_of (set_of hX4 0 (.slice a n ca)) 1 (.int .i64 (q : Int))) 2 (.int .i64 (e2 : Int))
        have b5 := ((b4.setCell (p := ⟨X, 0, none⟩) (by show w.heap.size ≤ X; omega) (.slice a n ca)).setCell (p := ⟨X, 1, none⟩) (by show w.heap.size ≤ X; omega) (.int .i64 (q : Int))).setCell (p := ⟨X, 2, none⟩) (by show w.heap.size ≤ X; omega) (.int .i64 (e2 : Int))
        have y0 := cell_of hX4 0
        have y1 := cell_of hX4 1
        have y2 := cell_of hX4 2
        have f0 := free_of hX4 0
        have f1 := free_of hX4 1
        have f2 := free_of hX4 2
        have g0 := cell_of hG4 0
        have g1 := cell_of hG4 1
        have g2 := cell_of hG4 2
        have g3 := cell_of hG4 3
        have g4 := cell_of hG4 4
        go_wp2_with fail
        have hq : q ≤ n := by have := hR5.lt; rw [H0.out] at this; exact this.2.2.2
        obtain ⟨r, hr⟩ : ∃ r : Nat, n - q = r := ⟨_, rfl⟩
        have hsub : (n : Int) - (q : Int) = (r : Int) := by omega
        have hwr : IntKind.i64.wrap (r : Int) = (r : Int) := IntWalk.i64_in _ (by omega)
        have hL6 := mleft_any (w := World.drew (((w4.setCell ⟨X, 0, none⟩ (.slice a n ca)).setCell ⟨X, 1, none⟩ (.int .i64 (q : Int))).setCell ⟨X, 2, none⟩ (.int .i64 (e2 : Int)))) (hR5.keep (Nat.le_refl _) (fun _ _ _ => rfl)) (by rw [H0.out]; omega)
        rw [H0.out, hr] at hL6
        have hXd : (World.drew (((w4.setCell ⟨X, 0, none⟩ (.slice a n ca)).setCell ⟨X, 1, none⟩ (.int .i64 (q : Int))).setCell ⟨X, 2, none⟩ (.int .i64 (e2 : Int)))).heap[X]? = some (.cells #[.slice a n ca, .int .i64 (q : Int), .int .i64 (e2 : Int)] 28 (0, 0)) := hX5
        have z1 := cell_of hX5 1
        have z2 := cell_of hX5 2
        have bd : Below w.heap.size w (World.drew (((w4.setCell ⟨X, 0, none⟩ (.slice a n ca)).setCell ⟨X, 1, none⟩ (.int .i64 (q : Int))).setCell ⟨X, 2, none⟩ (.int .i64 (e2 : Int)))) := below_drewN b5 1
        have HQ := Lib.hid hq
        clear hr hX5 hR5 hq
        go_region_held3 (fun wx => wx.cell? ⟨X, 1, none⟩ = some (.int .i64 (q : Int)) ∧ wx.cell? ⟨X, 2, none⟩ = some (.int .i64 (e2 : Int)))
          (first | assumption | go_keep)
          (first
            | (go_at_call 19; refine hL6.mono ?_; rintro f wx ⟨rfl, hRx, hOx⟩; have hXx := hOx.heap hXd (.inr hhX); have n1 := cell_of hXx 1; have n2 := cell_of hXx 2; have bx := bd.trans ((hOx.below hzl bd.size)); have hE7 := merr_any hRx (by rw [H0.out]; omega))
            | (go_at_call 20; refine hE7.mono ?_; rintro f wy ⟨rfl, hRy, hOy⟩; have hXy := hOy.heap hXx (.inr hhX); have m1 := cell_of hXy 1; have m2 := cell_of hXy 2; have bY := bx.trans (hOy.below hzl bx.size)))
        go_wp2_with fail
        go_roundw
        case rel => exact ⟨k + 1, q, e2, by omega, by go_num, HQ.out, hXy, hRy, bY⟩
        case measure => simp [intOf]; omega
      · have hk6 : (K : Int) % 6 = 2 := by omega
        clear hK6
        obtain ⟨q, e2, T, hT⟩ : ∃ q e2 T, take L p e N = (q, e2, T) := ⟨_, _, _, rfl⟩
        have ht := rtake_any (w := (wr.alloc (.cells #[.int .u8 (K : Int), .int .i64 N] 30))) (e := e) (m := N) H0.out hx1' (by omega) hp
        rw [hT] at ht
        unfold rdV gotV at ht
        dsimp only at ht
        have hB := fun (wx : World) (h : Rd lo hi wx g L p e) => mtake_any h (by rw [H0.out]; omega) hN0 hN1
        rw [hT] at hB
        dsimp only at hB
        have hTl : T.length ≤ 300 := by
          have h0 := take_any_len (L := L) (p := p) (e := e) (m := N)
          rw [hT, H0.out] at h0
          dsimp only at h0
          omega
        have hOp1 := World.alloc_heap_new wr (.cells #[.int .u8 (K : Int), .int .i64 N] 30)
        clear hT
        go_wp2_with fail
        refine ht.mono ?_
        rintro f w2 ⟨ua, uN, uc, rfl, hu, k2⟩
        have b2' := b1.trans (k2.mono b1.size)
        have hX2 := (k2.block X (lt_of_heap hX1)).trans hX1
        have hR2 := hR1.keep k2.size (fun k _ h2 => k2.block k (by have := lt_of_heap hX1; omega))
        have HU := Lib.hid hu
        have hX3 : (w2.alloc (.cells #[.slice a n ca, .int .i64 (q : Int), .int .i64 (e2 : Int), .int .u64 0, .slice ua uN uc] 33)).heap[X]? = _ := new_of hX2 _
        have hG3 := World.alloc_heap_new w2 (.cells #[.slice a n ca, .int .i64 (q : Int), .int .i64 (e2 : Int), .int .u64 0, .slice ua uN uc] 33)
        have hGX := lt_of_heap hX2
        have hR3 : Rd lo hi (w2.alloc (.cells #[.slice a n ca, .int .i64 (q : Int), .int .i64 (e2 : Int), .int .u64 0, .slice ua uN uc] 33)) g L p e := hR2.keep (by simp) (fun k h1 h2 => Below.heap_alloc _ _ _ (by omega))
        have b3 := b2'.alloc b2'.size (.cells #[.slice a n ca, .int .i64 (q : Int), .int .i64 (e2 : Int), .int .u64 0, .slice ua uN uc] 33)
        clear hu ht hX1 hR1 x0 x1 x2
        have hOp2 := (k2.block wr.heap.size (lt_of_heap hOp1)).trans hOp1
        have hOp3 : (w2.alloc (.cells #[.slice a n ca, .int .i64 (q : Int), .int .i64 (e2 : Int), .int .u64 0, .slice ua uN uc] 33)).heap[wr.heap.size]? = _ := new_of hOp2 _
        have o1 := cell_of hOp3 1
        have hOlt := lt_of_heap hOp2
        have hB3 := hB _ hR3
        clear hB hOp1 hOp2
        go_wp2_with fail
        refine hB3.mono ?_
        rintro f wq ⟨fa, fn, fc, rfl, hfo, hRq, hOq⟩
        obtain rfl : fn = T.length := by
          obtain ⟨_, _, he, _⟩ := own_slice hfo
          injection he
        obtain ⟨F, hF⟩ : ∃ F, T.length = F := ⟨_, rfl⟩
        have HF := Lib.hid hF
        rw [hF] at hfo hTl ⊢
        clear hF hB3 o1
        have hXq := hOq.heap hX3 (.inr hhX)
        have hGq := hOq.heap hG3 (.inr (by omega))
        have bq := b3.trans (hOq.below hzl b3.size)
        have huq := HU.out wq (hx.below bq)
        have hfb : Bs wq (.slice fa F fc) T := bs_of_own huq.1 (by rw [HF.out]; exact hfo)
        have hS := same_is rfl hfb huq (by rw [HF.out]; omega) (by rw [HF.out]; omega)
        have p4 := cell_of hGq 4
        go_wp2_with fail
        refine hS.mono ?_
        rintro f ws ⟨rfl, ks⟩
        have hXs := (ks.block X (lt_of_heap hXq)).trans hXq
        have hGs := (ks.block w2.heap.size (lt_of_heap hGq)).trans hGq
        have bs' := bq.trans (ks.mono bq.size)
        have hRs := hRq.keep ks.size (fun k _ h2 => ks.block k (by have := lt_of_heap hXq; omega))
        have hfs := own_below hfo ks
        have hsz : (w2.alloc (.cells #[.slice a n ca, .int .i64 (q : Int), .int .i64 (e2 : Int), .int .u64 0, .slice ua uN uc] 33)).heap.size = w2.heap.size + 1 := World.size_alloc ..
        rw [hsz] at hfs
        clear hsz hS hfb huq hfo hXq hGq hRq p4 ks hOq hX3 hG3 hOp3 hR3
        go_wp2_with fail
        go_loopw [118] (fun i wv => ∃ (wy : World) (j : Nat) (bs : List Nat), wy = wv ∧ j ≤ F ∧ i = .int .i64 j ∧ bs.length = F ∧ (∀ x ∈ bs, x < 256) ∧ wy.ownsRow (w2.heap.size + 1) 5 1 (.slice fa F fc) F (bytesV bs) ∧
          wy.heap[X]? = some (.cells #[.slice a n ca, .int .i64 (p : Int), .int .i64 (e : Int)] 28 (0, 0)) ∧ wy.heap[w2.heap.size]? = some (.cells #[.slice a n ca, .int .i64 (q : Int), .int .i64 (e2 : Int), .int .u64 0, .slice ua uN uc] 33 (0, 0)) ∧
          Rd lo hi wy g L q e2 ∧ Below w.heap.size w wy) (fun i _ => F - (intOf i).toNat)
        case atStart => exact ⟨_, 0, T, rfl, Nat.zero_le _, rfl, HF.out, HU.out w hx |>.1, hfs, hXs, hGs, hRs, bs'⟩
        case round =>
          clear hfs hXs hGs hRs bs'
          obtain ⟨wy, j, bs, rfl, hj, rfl, hbl, hb256, hfo, hX4, hG4, hR4, b4⟩ := hrel
          by_cases hjF : j < F
          · have hjb : j < bs.length := by omega
            obtain ⟨fg, rfl, hfg, hcell, hfree⟩ := own_cell hfo hjb
            have hbj := hb256 _ (List.getElem_mem hjb)
            obtain ⟨y, hy'⟩ : ∃ y, bs[j] = y := ⟨_, rfl⟩
            rw [hy'] at hcell hbj
            obtain ⟨z, hz⟩ : ∃ z, (y + 1) % 256 = z := ⟨_, rfl⟩
            have hwz : IntKind.u8.wrap ((y : Int) + 1) = (z : Int) := by
              simp only [IntKind.wrap, IntKind.signed, IntKind.bits]
              simp
              omega
            have hfo' := own_store (x := z) (q := j) hfo
            have hX' := ((grown_set wy fg j (.int .u8 (z : Int))).block X (lt_of_heap hX4) (by intro e; injection e with e; omega)).trans hX4
            have hG' := ((grown_set wy fg j (.int .u8 (z : Int))).block w2.heap.size (lt_of_heap hG4) (by intro e; injection e with e; omega)).trans hG4
            have hR' := hR4.set (i := j) (X := fg) (by omega) (.int .u8 (z : Int))
            have b' := b4.setCell (p := ⟨fg, j, none⟩) (by show w.heap.size ≤ fg; omega) (.int .u8 (z : Int))
            have hjF' : (j : Int) < (F : Int) := by omega
            have HB := Lib.hid hb256
            have HL := Lib.hid hbl
            have HZ := Lib.hid hz
            clear hfo hX4 hG4 hR4 b4 hb256 hbl hz hy'
            go_wp2_with fail
            go_roundw
            case rel =>
              refine ⟨_, j + 1, bs.set j z, rfl, by omega, by go_num, by rw [List.length_set]; exact HL.out, fun x hx => ?_, hfo', hX', hG', hR', b'⟩
              rcases List.mem_or_eq_of_mem_set hx with hx | rfl
              · exact HB.out x hx
              · rw [← HZ.out]; omega
            case measure => simp [intOf]; omega
          · obtain rfl : F = j := by omega
            clear hfo hb256 hbl
            have hR5 := ((hR4.set (i := 0) hhX (.slice a n ca)).set (i := 1) hhX (.int .i64 (q : Int))).set (i := 2) hhX (.int .i64 (e2 : Int))
            have hX5 := set_of (set_of (set_of hX4 0 (.slice a n ca)) 1 (.int .i64 (q : Int))) 2 (.int .i64 (e2 : Int))
            have b5 := ((b4.setCell (p := ⟨X, 0, none⟩) (by show w.heap.size ≤ X; omega) (.slice a n ca)).setCell (p := ⟨X, 1, none⟩) (by show w.heap.size ≤ X; omega) (.int .i64 (q : Int))).setCell (p := ⟨X, 2, none⟩) (by show w.heap.size ≤ X; omega) (.int .i64 (e2 : Int))
            have y0 := cell_of hX4 0
            have y1 := cell_of hX4 1
            have y2 := cell_of hX4 2
            have f0 := free_of hX4 0
            have f1 := free_of hX4 1
            have f2 := free_of hX4 2
            have g0 := cell_of hG4 0
            have g1 := cell_of hG4 1
            have g2 := cell_of hG4 2
            have g3 := cell_of hG4 3
            have g4 := cell_of hG4 4
            go_wp2_with fail
            have hq : q ≤ n := by have := hR5.lt; rw [H0.out] at this; exact this.2.2.2
            obtain ⟨r, hr⟩ : ∃ r : Nat, n - q = r := ⟨_, rfl⟩
            have hsub : (n : Int) - (q : Int) = (r : Int) := by omega
            have hwr : IntKind.i64.wrap (r : Int) = (r : Int) := IntWalk.i64_in _ (by omega)
            have hL6 := mleft_any (w := World.drew (((wy.setCell ⟨X, 0, none⟩ (.slice a n ca)).setCell ⟨X, 1, none⟩ (.int .i64 (q : Int))).setCell ⟨X, 2, none⟩ (.int .i64 (e2 : Int)))) (hR5.keep (Nat.le_refl _) (fun _ _ _ => rfl)) (by rw [H0.out]; omega)
            rw [H0.out, hr] at hL6
            have hXd : (World.drew (((wy.setCell ⟨X, 0, none⟩ (.slice a n ca)).setCell ⟨X, 1, none⟩ (.int .i64 (q : Int))).setCell ⟨X, 2, none⟩ (.int .i64 (e2 : Int)))).heap[X]? = some (.cells #[.slice a n ca, .int .i64 (q : Int), .int .i64 (e2 : Int)] 28 (0, 0)) := hX5
            have z1 := cell_of hX5 1
            have z2 := cell_of hX5 2
            have bd : Below w.heap.size w (World.drew (((wy.setCell ⟨X, 0, none⟩ (.slice a n ca)).setCell ⟨X, 1, none⟩ (.int .i64 (q : Int))).setCell ⟨X, 2, none⟩ (.int .i64 (e2 : Int)))) := below_drewN b5 1
            have HQ := Lib.hid hq
            clear hr hX5 hR5 hq
            go_region_held3 (fun wx => wx.cell? ⟨X, 1, none⟩ = some (.int .i64 (q : Int)) ∧ wx.cell? ⟨X, 2, none⟩ = some (.int .i64 (e2 : Int)))
              (first | assumption | go_keep)
              (first
                | (go_at_call 19; refine hL6.mono ?_; rintro f wx ⟨rfl, hRx, hOx⟩; have hXx := hOx.heap hXd (.inr hhX); have n1 := cell_of hXx 1; have n2 := cell_of hXx 2; have bx := bd.trans ((hOx.below hzl bd.size)); have hE7 := merr_any hRx (by rw [H0.out]; omega))
                | (go_at_call 20; refine hE7.mono ?_; rintro f wy ⟨rfl, hRy, hOy⟩; have hXy := hOy.heap hXx (.inr hhX); have m1 := cell_of hXy 1; have m2 := cell_of hXy 2; have bY := bx.trans (hOy.below hzl bx.size)))
            go_wp2_with fail
            go_roundw
            case rel => exact ⟨k + 1, q, e2, by omega, by go_num, HQ.out, hXy, hRy, bY⟩
            case measure => simp [intOf]; omega

      · have hk6 : (K : Int) % 6 = 3 := by omega
        clear hK6
        obtain ⟨q, e2, T, hT⟩ : ∃ q e2 T, frame L p e N = (q, e2, T) := ⟨_, _, _, rfl⟩
        have ht := rframe_any (w := (wr.alloc (.cells #[.int .u8 (K : Int), .int .i64 N] 30))) (e := e) (most := N) H0.out hx1' (by omega) hp hN1
        rw [hT] at ht
        unfold rdV gotV at ht
        dsimp only at ht
        have hB := fun (wx : World) (h : Rd lo hi wx g L p e) => mframe_any h (by rw [H0.out]; omega) hN0 hN1
        rw [hT] at hB
        dsimp only at hB
        have hTl : T.length < 1000000000 := by
          have h0 := frame_any_len (L := L) (p := p) (e := e) (most := N)
          rw [hT, H0.out] at h0
          dsimp only at h0
          omega
        have hOp1 := World.alloc_heap_new wr (.cells #[.int .u8 (K : Int), .int .i64 N] 30)
        clear hT
        go_wp2_with fail
        refine ht.mono ?_
        rintro f w2 ⟨ua, uN, uc, rfl, hu, k2⟩
        have b2' := b1.trans (k2.mono b1.size)
        have hX2 := (k2.block X (lt_of_heap hX1)).trans hX1
        have hR2 := hR1.keep k2.size (fun k _ h2 => k2.block k (by have := lt_of_heap hX1; omega))
        have HU := Lib.hid hu
        have hX3 : (w2.alloc (.cells #[.slice a n ca, .int .i64 (q : Int), .int .i64 (e2 : Int), .int .u64 0, .slice ua uN uc] 33)).heap[X]? = _ := new_of hX2 _
        have hG3 := World.alloc_heap_new w2 (.cells #[.slice a n ca, .int .i64 (q : Int), .int .i64 (e2 : Int), .int .u64 0, .slice ua uN uc] 33)
        have hGX := lt_of_heap hX2
        have hR3 : Rd lo hi (w2.alloc (.cells #[.slice a n ca, .int .i64 (q : Int), .int .i64 (e2 : Int), .int .u64 0, .slice ua uN uc] 33)) g L p e := hR2.keep (by simp) (fun k h1 h2 => Below.heap_alloc _ _ _ (by omega))
        have b3 := b2'.alloc b2'.size (.cells #[.slice a n ca, .int .i64 (q : Int), .int .i64 (e2 : Int), .int .u64 0, .slice ua uN uc] 33)
        clear hu ht hX1 hR1 x0 x1 x2
        have hOp2 := (k2.block wr.heap.size (lt_of_heap hOp1)).trans hOp1
        have hOp3 : (w2.alloc (.cells #[.slice a n ca, .int .i64 (q : Int), .int .i64 (e2 : Int), .int .u64 0, .slice ua uN uc] 33)).heap[wr.heap.size]? = _ := new_of hOp2 _
        have hB3 := hB (World.drew (w2.alloc (.cells #[.slice a n ca, .int .i64 (q : Int), .int .i64 (e2 : Int), .int .u64 0, .slice ua uN uc] 33))) (hR3.keep (Nat.le_refl _) (fun _ _ _ => rfl))
        have b3d : Below w.heap.size w (World.drew (w2.alloc (.cells #[.slice a n ca, .int .i64 (q : Int), .int .i64 (e2 : Int), .int .u64 0, .slice ua uN uc] 33))) := below_drewN b3 1
        have hXd : (World.drew (w2.alloc (.cells #[.slice a n ca, .int .i64 (q : Int), .int .i64 (e2 : Int), .int .u64 0, .slice ua uN uc] 33))).heap[X]? = some (.cells #[.slice a n ca, .int .i64 (p : Int), .int .i64 (e : Int)] 28 (0, 0)) := hX3
        have hGd : (World.drew (w2.alloc (.cells #[.slice a n ca, .int .i64 (q : Int), .int .i64 (e2 : Int), .int .u64 0, .slice ua uN uc] 33))).heap[w2.heap.size]? = some (.cells #[.slice a n ca, .int .i64 (q : Int), .int .i64 (e2 : Int), .int .u64 0, .slice ua uN uc] 33 (0, 0)) := hG3
        have hOd : (World.drew (w2.alloc (.cells #[.slice a n ca, .int .i64 (q : Int), .int .i64 (e2 : Int), .int .u64 0, .slice ua uN uc] 33))).heap[wr.heap.size]? = some (.cells #[.int .u8 (K : Int), .int .i64 N] 30 (0, 0)) := hOp3
        have p4 := cell_of hG3 4
        have o1 := cell_of hOp3 1
        have hOlt := lt_of_heap hOp2
        clear hB hOp1 hOp2
        go_wp2_with fail
        go_region_held3 (fun wx => wx.cell? ⟨wr.heap.size, 1, none⟩ = some (.int .i64 N) ∧ wx.cell? ⟨w2.heap.size, 4, none⟩ = some (.slice ua uN uc))
          (first | assumption | go_keep)
          (first
            | (go_at_call 16; refine hB3.mono ?_; rintro f wq ⟨fa, fn, fc, rfl, hfq, hRq, hOq⟩; have hXq := hOq.heap hXd (.inr hhX); have hGq := hOq.heap hGd (.inr (by omega)); have hOpq := hOq.heap hOd (.inr (by omega)); have bq := b3d.trans (hOq.below hzl b3d.size); have huq := HU.out wq (hx.below bq); have n1 := cell_of hOpq 1; have n2 := cell_of hGq 4; have hS := same_is rfl hfq huq hTl hTl)
            | (go_at_call 14; refine hS.mono ?_; rintro f w4 ⟨rfl, k4⟩; have hX4 := (k4.block X (lt_of_heap hXq)).trans hXq; have hG4 := (k4.block w2.heap.size (lt_of_heap hGq)).trans hGq; have hOp4 := (k4.block wr.heap.size (lt_of_heap hOpq)).trans hOpq; have b4 := bq.trans (k4.mono bq.size); have m1 := cell_of hOp4 1; have m2 := cell_of hG4 4; have hR4 := hRq.keep k4.size (fun k _ h2 => k4.block k (by have := lt_of_heap hXq; omega))))
        clear hB3 p4 o1 n1 n2 m1 m2 hXd hGd hOd hXq hGq hOpq hOp4 hOp3 hS hfq huq
        have hR5 := ((hR4.set (i := 0) hhX (.slice a n ca)).set (i := 1) hhX (.int .i64 (q : Int))).set (i := 2) hhX (.int .i64 (e2 : Int))
        have hX5 := set_of (set_of (set_of hX4 0 (.slice a n ca)) 1 (.int .i64 (q : Int))) 2 (.int .i64 (e2 : Int))
        have b5 := ((b4.setCell (p := ⟨X, 0, none⟩) (by show w.heap.size ≤ X; omega) (.slice a n ca)).setCell (p := ⟨X, 1, none⟩) (by show w.heap.size ≤ X; omega) (.int .i64 (q : Int))).setCell (p := ⟨X, 2, none⟩) (by show w.heap.size ≤ X; omega) (.int .i64 (e2 : Int))
        have y0 := cell_of hX4 0
        have y1 := cell_of hX4 1
        have y2 := cell_of hX4 2
        have f0 := free_of hX4 0
        have f1 := free_of hX4 1
        have f2 := free_of hX4 2
        have g0 := cell_of hG4 0
        have g1 := cell_of hG4 1
        have g2 := cell_of hG4 2
        have g3 := cell_of hG4 3
        have g4 := cell_of hG4 4
        go_wp2_with fail
        have hq : q ≤ n := by have := hR5.lt; rw [H0.out] at this; exact this.2.2.2
        obtain ⟨r, hr⟩ : ∃ r : Nat, n - q = r := ⟨_, rfl⟩
        have hsub : (n : Int) - (q : Int) = (r : Int) := by omega
        have hwr : IntKind.i64.wrap (r : Int) = (r : Int) := IntWalk.i64_in _ (by omega)
        have hL6 := mleft_any (w := World.drew (((w4.setCell ⟨X, 0, none⟩ (.slice a n ca)).setCell ⟨X, 1, none⟩ (.int .i64 (q : Int))).setCell ⟨X, 2, none⟩ (.int .i64 (e2 : Int)))) (hR5.keep (Nat.le_refl _) (fun _ _ _ => rfl)) (by rw [H0.out]; omega)
        rw [H0.out, hr] at hL6
        have hXd : (World.drew (((w4.setCell ⟨X, 0, none⟩ (.slice a n ca)).setCell ⟨X, 1, none⟩ (.int .i64 (q : Int))).setCell ⟨X, 2, none⟩ (.int .i64 (e2 : Int)))).heap[X]? = some (.cells #[.slice a n ca, .int .i64 (q : Int), .int .i64 (e2 : Int)] 28 (0, 0)) := hX5
        have z1 := cell_of hX5 1
        have z2 := cell_of hX5 2
        have bd : Below w.heap.size w (World.drew (((w4.setCell ⟨X, 0, none⟩ (.slice a n ca)).setCell ⟨X, 1, none⟩ (.int .i64 (q : Int))).setCell ⟨X, 2, none⟩ (.int .i64 (e2 : Int)))) := below_drewN b5 1
        have HQ := Lib.hid hq
        clear hr hX5 hR5 hq
        go_region_held3 (fun wx => wx.cell? ⟨X, 1, none⟩ = some (.int .i64 (q : Int)) ∧ wx.cell? ⟨X, 2, none⟩ = some (.int .i64 (e2 : Int)))
          (first | assumption | go_keep)
          (first
            | (go_at_call 19; refine hL6.mono ?_; rintro f wx ⟨rfl, hRx, hOx⟩; have hXx := hOx.heap hXd (.inr hhX); have n1 := cell_of hXx 1; have n2 := cell_of hXx 2; have bx := bd.trans ((hOx.below hzl bd.size)); have hE7 := merr_any hRx (by rw [H0.out]; omega))
            | (go_at_call 20; refine hE7.mono ?_; rintro f wy ⟨rfl, hRy, hOy⟩; have hXy := hOy.heap hXx (.inr hhX); have m1 := cell_of hXy 1; have m2 := cell_of hXy 2; have bY := bx.trans (hOy.below hzl bx.size)))
        go_wp2_with fail
        go_roundw
        case rel => exact ⟨k + 1, q, e2, by omega, by go_num, HQ.out, hXy, hRy, bY⟩
        case measure => simp [intOf]; omega
      · have hk6 : (K : Int) % 6 = 4 := by omega
        clear hK6
        obtain ⟨q, e2, T, hT⟩ : ∃ q e2 T, frame L p e 1048576 = (q, e2, T) := ⟨_, _, _, rfl⟩
        have ht := rframe_any (w := (wr.alloc (.cells #[.int .u8 (K : Int), .int .i64 N] 30))) (e := e) (most := 1048576) H0.out hx1' (by omega) hp (by decide)
        rw [hT] at ht
        unfold rdV gotV at ht
        dsimp only at ht
        have hB := fun (wx : World) (h : Rd lo hi wx g L p e) => mtext_any h (by rw [H0.out]; omega)
        rw [hT] at hB
        dsimp only at hB
        clear hT
        go_wp2_with fail
        refine ht.mono ?_
        rintro f w2 ⟨ua, uN, uc, rfl, hu, k2⟩
        have b2' := b1.trans (k2.mono b1.size)
        have hX2 := (k2.block X (lt_of_heap hX1)).trans hX1
        have hR2 := hR1.keep k2.size (fun k _ h2 => k2.block k (by have := lt_of_heap hX1; omega))
        have HU := Lib.hid hu
        have hX3 : (w2.alloc (.cells #[.slice a n ca, .int .i64 (q : Int), .int .i64 (e2 : Int), .int .u64 0, .slice ua uN uc] 33)).heap[X]? = _ := new_of hX2 _
        have hG3 := World.alloc_heap_new w2 (.cells #[.slice a n ca, .int .i64 (q : Int), .int .i64 (e2 : Int), .int .u64 0, .slice ua uN uc] 33)
        have hGX := lt_of_heap hX2
        have hR3 : Rd lo hi (w2.alloc (.cells #[.slice a n ca, .int .i64 (q : Int), .int .i64 (e2 : Int), .int .u64 0, .slice ua uN uc] 33)) g L p e := hR2.keep (by simp) (fun k h1 h2 => Below.heap_alloc _ _ _ (by omega))
        have b3 := b2'.alloc b2'.size (.cells #[.slice a n ca, .int .i64 (q : Int), .int .i64 (e2 : Int), .int .u64 0, .slice ua uN uc] 33)
        clear hu ht hX1 hR1 x0 x1 x2
        have hB3 := hB (World.drew (w2.alloc (.cells #[.slice a n ca, .int .i64 (q : Int), .int .i64 (e2 : Int), .int .u64 0, .slice ua uN uc] 33))) (hR3.keep (Nat.le_refl _) (fun _ _ _ => rfl))
        have b3d : Below w.heap.size w (World.drew (w2.alloc (.cells #[.slice a n ca, .int .i64 (q : Int), .int .i64 (e2 : Int), .int .u64 0, .slice ua uN uc] 33))) := below_drewN b3 1
        have hXd : (World.drew (w2.alloc (.cells #[.slice a n ca, .int .i64 (q : Int), .int .i64 (e2 : Int), .int .u64 0, .slice ua uN uc] 33))).heap[X]? = some (.cells #[.slice a n ca, .int .i64 (p : Int), .int .i64 (e : Int)] 28 (0, 0)) := hX3
        have hGd : (World.drew (w2.alloc (.cells #[.slice a n ca, .int .i64 (q : Int), .int .i64 (e2 : Int), .int .u64 0, .slice ua uN uc] 33))).heap[w2.heap.size]? = some (.cells #[.slice a n ca, .int .i64 (q : Int), .int .i64 (e2 : Int), .int .u64 0, .slice ua uN uc] 33 (0, 0)) := hG3
        have p4 := cell_of hG3 4
        have cv0 := convert_text (HU.out _ (hx.below b3d))
        obtain ⟨txt, htx⟩ : ∃ txt, textOf T = txt := ⟨_, rfl⟩
        rw [htx] at hB3 cv0
        have HTX := Lib.hid htx
        clear htx
        clear hB
        go_wp2_with fail
        go_region_held3 (fun wx => wx.cell? ⟨w2.heap.size, 4, none⟩ = some (.slice ua uN uc) ∧ (convert 22 9 (.slice ua uN uc)).run Try.prog wx = .ok (.string txt) wx)
          (first | assumption | go_keep)
          (first
            | (go_at_call 17; refine hB3.mono ?_; rintro f w4 ⟨rfl, hR4, hO4⟩; have hX4 := hO4.heap hXd (.inr hhX); have hG4 := hO4.heap hGd (.inr (by omega)); have b4 := b3d.trans (hO4.below hzl b3d.size); have n1 := cell_of hG4 4; have n2 : (convert 22 9 (.slice ua uN uc)).run Try.prog w4 = .ok (.string txt) w4 := by rw [← HTX.out]; exact convert_text (HU.out w4 (hx.below b4))))
        clear hB3 p4 n1 n2 cv0 hXd hGd
        have hR5 := ((hR4.set (i := 0) hhX (.slice a n ca)).set (i := 1) hhX (.int .i64 (q : Int))).set (i := 2) hhX (.int .i64 (e2 : Int))
        have hX5 := set_of (set_of (set_of hX4 0 (.slice a n ca)) 1 (.int .i64 (q : Int))) 2 (.int .i64 (e2 : Int))
        have b5 := ((b4.setCell (p := ⟨X, 0, none⟩) (by show w.heap.size ≤ X; omega) (.slice a n ca)).setCell (p := ⟨X, 1, none⟩) (by show w.heap.size ≤ X; omega) (.int .i64 (q : Int))).setCell (p := ⟨X, 2, none⟩) (by show w.heap.size ≤ X; omega) (.int .i64 (e2 : Int))
        have y0 := cell_of hX4 0
        have y1 := cell_of hX4 1
        have y2 := cell_of hX4 2
        have f0 := free_of hX4 0
        have f1 := free_of hX4 1
        have f2 := free_of hX4 2
        have g0 := cell_of hG4 0
        have g1 := cell_of hG4 1
        have g2 := cell_of hG4 2
        have g3 := cell_of hG4 3
        have g4 := cell_of hG4 4
        go_wp2_with fail
        have hq : q ≤ n := by have := hR5.lt; rw [H0.out] at this; exact this.2.2.2
        obtain ⟨r, hr⟩ : ∃ r : Nat, n - q = r := ⟨_, rfl⟩
        have hsub : (n : Int) - (q : Int) = (r : Int) := by omega
        have hwr : IntKind.i64.wrap (r : Int) = (r : Int) := IntWalk.i64_in _ (by omega)
        have hL6 := mleft_any (w := World.drew (((w4.setCell ⟨X, 0, none⟩ (.slice a n ca)).setCell ⟨X, 1, none⟩ (.int .i64 (q : Int))).setCell ⟨X, 2, none⟩ (.int .i64 (e2 : Int)))) (hR5.keep (Nat.le_refl _) (fun _ _ _ => rfl)) (by rw [H0.out]; omega)
        rw [H0.out, hr] at hL6
        have hXd : (World.drew (((w4.setCell ⟨X, 0, none⟩ (.slice a n ca)).setCell ⟨X, 1, none⟩ (.int .i64 (q : Int))).setCell ⟨X, 2, none⟩ (.int .i64 (e2 : Int)))).heap[X]? = some (.cells #[.slice a n ca, .int .i64 (q : Int), .int .i64 (e2 : Int)] 28 (0, 0)) := hX5
        have z1 := cell_of hX5 1
        have z2 := cell_of hX5 2
        have bd : Below w.heap.size w (World.drew (((w4.setCell ⟨X, 0, none⟩ (.slice a n ca)).setCell ⟨X, 1, none⟩ (.int .i64 (q : Int))).setCell ⟨X, 2, none⟩ (.int .i64 (e2 : Int)))) := below_drewN b5 1
        have HQ := Lib.hid hq
        clear hr hX5 hR5 hq
        go_region_held3 (fun wx => wx.cell? ⟨X, 1, none⟩ = some (.int .i64 (q : Int)) ∧ wx.cell? ⟨X, 2, none⟩ = some (.int .i64 (e2 : Int)))
          (first | assumption | go_keep)
          (first
            | (go_at_call 19; refine hL6.mono ?_; rintro f wx ⟨rfl, hRx, hOx⟩; have hXx := hOx.heap hXd (.inr hhX); have n1 := cell_of hXx 1; have n2 := cell_of hXx 2; have bx := bd.trans ((hOx.below hzl bd.size)); have hE7 := merr_any hRx (by rw [H0.out]; omega))
            | (go_at_call 20; refine hE7.mono ?_; rintro f wy ⟨rfl, hRy, hOy⟩; have hXy := hOy.heap hXx (.inr hhX); have m1 := cell_of hXy 1; have m2 := cell_of hXy 2; have bY := bx.trans (hOy.below hzl bx.size)))
        go_wp2_with fail
        go_roundw
        case rel => exact ⟨k + 1, q, e2, by omega, by go_num, HQ.out, hXy, hRy, bY⟩
        case measure => simp [intOf]; omega

      · have hk6 : (K : Int) % 6 = 5 := by omega
        clear hK6
        have hE3 := mend_any hR1 (by rw [H0.out]; omega)
        rw [H0.out] at hE3
        have hc : ((((e : Int) == 0) = true ∧ decide (p < n) = true ∧ decide ((p : Int) < (n : Int)) = true ∧ (if e ≠ 0 then e else if p < n then 14 else 0) = 14)) ∨ (((e : Int) == 0) = true ∧ decide (p < n) = false ∧ decide ((p : Int) < (n : Int)) = false ∧ (if e ≠ 0 then e else if p < n then 14 else 0) = 0 ∧ (e : Int) = 0) ∨ (((e : Int) == 0) = false ∧ (if e ≠ 0 then e else if p < n then 14 else 0) = e) := by
          by_cases h1 : e = 0
          · by_cases h2 : p < n
            · left; simp [h1, h2]
            · right; left; simp [h1, h2]
          · right; right; simp [h1]
        obtain ⟨q, hqp⟩ : ∃ q, p = q := ⟨_, rfl⟩
        obtain ⟨e2, he2⟩ : ∃ e2, e = e2 := ⟨_, rfl⟩
        subst hqp; subst he2
        rcases hc with ⟨c1, c2, c3, c4⟩ | ⟨c1, c2, c3, c4, c5⟩ | ⟨c1, c4⟩
        all_goals
          rw [c4] at hE3
          clear c4
          go_wp2_with fail
          refine hE3.mono ?_
          rintro f w4 ⟨rfl, hR5, hO4⟩
          have hX5 := hO4.heap hX1 (.inr hhX)
          have b5 := b1.trans (hO4.below hzl b1.size)
          clear hE3 x0 x1 x2
          have x0 := cell_of hX5 0
          have x1 := cell_of hX5 1
          have x2 := cell_of hX5 2
          go_wp2_with fail
          have hq : p ≤ n := by have := hR5.lt; rw [H0.out] at this; exact this.2.2.2
          obtain ⟨r, hr⟩ : ∃ r : Nat, n - p = r := ⟨_, rfl⟩
          have hsub : (n : Int) - (p : Int) = (r : Int) := by omega
          have hwr : IntKind.i64.wrap (r : Int) = (r : Int) := IntWalk.i64_in _ (by omega)
          have hL6 := mleft_any (w := World.drew w4) (hR5.keep (Nat.le_refl _) (fun _ _ _ => rfl)) (by rw [H0.out]; omega)
          rw [H0.out, hr] at hL6
          have hXd : (World.drew w4).heap[X]? = some (.cells #[.slice a n ca, .int .i64 (p : Int), .int .i64 (e : Int)] 28 (0, 0)) := hX5
          have z1 := cell_of hX5 1
          have z2 := cell_of hX5 2
          have bd : Below w.heap.size w (World.drew w4) := below_drewN b5 1
          have HQ := Lib.hid hq
          clear hr hX5 hR5 hq
          go_region_held3 (fun wx => wx.cell? ⟨X, 1, none⟩ = some (.int .i64 (p : Int)) ∧ wx.cell? ⟨X, 2, none⟩ = some (.int .i64 (e : Int)))
            (first | assumption | go_keep)
            (first
              | (go_at_call 19; refine hL6.mono ?_; rintro f wx ⟨rfl, hRx, hOx⟩; have hXx := hOx.heap hXd (.inr hhX); have n1 := cell_of hXx 1; have n2 := cell_of hXx 2; have bx := bd.trans ((hOx.below hzl bd.size)); have hE7 := merr_any hRx (by rw [H0.out]; omega))
              | (go_at_call 20; refine hE7.mono ?_; rintro f wy ⟨rfl, hRy, hOy⟩; have hXy := hOy.heap hXx (.inr hhX); have m1 := cell_of hXy 1; have m2 := cell_of hXy 2; have bY := bx.trans (hOy.below hzl bx.size)))
          go_wp2_with fail
          go_roundw
          case rel => exact ⟨k + 1, p, e, by omega, by go_num, HQ.out, hXy, hRy, bY⟩
          case measure => simp [intOf]; omega
    · obtain rfl : m = k := by omega
      go_wp2_with fail
      go_ret
      exact ⟨rfl, hbel⟩
end Go.Proofs.Ytkbdahbnjklkoaa.Frm
