/- The contracts of frame.Put and frame.Split, over the code as it landed. Nothing is claimed here. -/
import Derived.Test.YtkbdahbnjklkoaaFrmSplit
import Derived.Test.YtkbdahbnjklkoaaFrmPut
import Derived.Test.YtkbdahbnjklkoaaFrmRdr
import Derived.OwnWalk
namespace Go.Proofs.Ytkbdahbnjklkoaa.Frm
open Go.RowKit Kit Byt Var Sls

set_option maxRecDepth 100000 in
set_option maxHeartbeats 4000000 in
theorem fput_any {w : World} {v : Value} {ls : List (List Nat)} (hx : Ss w v ls) (h1 : (puts ls).length ≤ 1000000000) :
    Calls Try.prog 23 #[v] w fun f w' => ∃ a N c, f = .returned (.slice a N c) ∧ N = (puts ls).length ∧ w'.ownsRow w.heap.size 5 1 (.slice a N c) N (bytesV (puts ls)) ∧ Bs w' (.slice a N c) (puts ls) ∧ Below w.heap.size w w' := by
  obtain ⟨a, c, rfl, hc, hx⟩ := hx
  have hlb : ls.length ≤ 1000000000 := Nat.le_trans (puts_ge ls) h1
  go_enter Try.func23, Try.ntmps23
  go_wp2_with fail
  go_loopw [3, 11] (fun s i wr => ∃ (k q : Nat), k ≤ ls.length ∧ i = .int .i64 k ∧ s = .int .i64 q ∧ q = (puts (ls.take k)).length ∧ wr = w) (fun _ i _ => ls.length - (intOf i).toNat)
  case atStart => exact ⟨0, 0, Nat.zero_le _, rfl, rfl, rfl, rfl⟩
  case round =>
    obtain ⟨k, q, hk, rfl, rfl, hq, hwe⟩ := hrel
    have hw2 := hwe.symm
    clear hwe
    subst hw2
    by_cases hlt : k < ls.length
    · obtain ⟨g, off, rfl, hg, hcx⟩ := hx.resolve_left (fun e => by rw [e] at hlt; simp at hlt)
      obtain ⟨u, hu, hub⟩ := hcx k ls[k] (List.getElem?_eq_getElem hlt)
      have hlt' : (k : Int) < (ls.length : Int) := by omega
      have hnext := puts_take hlt
      have hle := puts_le ls (k + 1)
      obtain ⟨_, ua, uc, rfl, _⟩ := hub
      rw [hnext, List.length_append, List.length_append] at hle
      have hq2 : (puts (ls.take (k + 1))).length = q + ((put (ls[k]).length).length + (ls[k]).length) := by rw [hnext, List.length_append, List.length_append, ← hq]; omega
      rw [← hq] at hle
      generalize (ls[k]).length = B at *
      have hpB : B < 18446744073709551616 := by omega
      have hwu := wrapu hpB
      have hsz := size_eq (w := w) hpB
      generalize (put B).length = z at *
      have H1 := Lib.hid hq2
      clear hq2 hq hnext hcx hx hpB
      go_wp2_with fail
      refine hsz.mono ?_
      rintro e w1 ⟨rfl, rfl⟩
      go_wp2_with fail
      go_roundw
      case rel => exact ⟨k + 1, q + (z + B), by omega, by go_num, by go_num, H1.out.symm, by first | trivial | rfl⟩
      case measure => simp [intOf]; omega
    · obtain rfl : k = ls.length := by omega
      rw [List.take_length] at hq
      have hq1 : q ≤ 1000000000 := by omega
      have H0 := Lib.hid hq
      clear hq
      obtain ⟨i0, hi, hz0, hz1, hz2⟩ := info_parts infoByte
      go_wp2_with (at_make; refine wpList_make_own _ rfl _ _ _ rfl w.heap.size 5 i0 (.int .u8 0) 1 Try.underlying22 hi hz0 hz1 .i64 .i64 q q rfl rfl rfl ?m1 ?m2 ?m3 ?_)
      case m1 => rw [hz2]; omega
      case m2 => unfold maxLen; omega
      case m3 => exact Nat.le_refl _
      intro w2 hown hgrow
      have b2 : Below w.heap.size w w2 := ((Below.refl _ w).grown hgrow (Nat.le_refl _) (fun j e => by cases e))
      go_wp2_with fail
      go_loopw [6, 29] (fun o i wx => ∃ (k : Nat), k ≤ ls.length ∧ i = .int .i64 k ∧ wx.ownsRow w.heap.size 5 1 o (puts (ls.take k)).length (bytesV (puts (ls.take k))) ∧ (∀ b ∈ puts (ls.take k), b < 256) ∧ Below w.heap.size w wx) (fun _ i _ => ls.length - (intOf i).toNat)
      case atStart => exact ⟨0, Nat.zero_le _, rfl, by first | exact hown | simpa [bytesV, puts] using hown, by simp [puts], b2⟩
      case round =>
        obtain ⟨k, hk, rfl, ho, hby, hbel⟩ := hrel
        have hz := hbel.size
        by_cases hlt : k < ls.length
        · obtain ⟨g, off, rfl, hg, hcx⟩ := hx.resolve_left (fun e => by rw [e] at hlt; simp at hlt)
          obtain ⟨u, hu, hub⟩ := hcx k ls[k] (List.getElem?_eq_getElem hlt)
          have e1 := (hbel.cell (p := ⟨g, off + k, none⟩) hg).trans hu
          have hlt' : (k : Int) < (ls.length : Int) := by omega
          have hnext := puts_take hlt
          have hle := puts_le ls (k + 1)
          rw [hnext, List.length_append, List.length_append] at hle
          obtain ⟨P, hP⟩ : ∃ P, puts (ls.take k) = P := ⟨_, rfl⟩
          obtain ⟨B, hB⟩ : ∃ B, ls[k] = B := ⟨_, rfl⟩
          rw [hP] at ho hby hnext hle
          rw [hB] at hub hnext hle
          obtain ⟨hB256, ua, uc, rfl, huc, _⟩ := id hub
          have hpb := put_byte B.length
          have hpB : B.length < 18446744073709551616 := by omega
          have hwu := wrapu hpB
          have hrp := put_any (w := wr) hpB
          have HN := Lib.hid hnext
          have HB := Lib.hid hby
          have HC := Lib.hid hB256
          have HD := Lib.hid hpb
          have hlen : P.length + (put B.length).length + B.length ≤ 1000000000 := by omega
          clear hcx hx hu hnext hle hP hB hby hB256 hpb hpB
          go_wp2_with fail
          refine hrp.mono ?_
          rintro f w2 ⟨pa, pc, rfl, hpv, k2⟩
          have b2 := hbel.trans (k2.mono hz)
          have ho2 := own_below ho k2
          go_wp2_with (at_builtin; refine wp_append_bytes rfl _ _ rfl w.heap.size rfl rfl ho2 hpv ?d1 ?d2 ?_)
          case d1 => omega
          case d2 => exact b2.size
          intro v3 w3 ho3 hg3
          have b3 : Below w.heap.size w w3 := b2.grown hg3 b2.size (fun j e => (ho2.lt j e).1)
          have hub3 := hub.below b3
          go_wp2_with (at_builtin; refine wp_append_bytes rfl _ _ rfl w.heap.size rfl rfl ho3 hub3 ?d1 ?d2 ?_)
          case d1 => omega
          case d2 => exact b3.size
          intro v4 w4 ho4 hg4
          have b4 : Below w.heap.size w w4 := b3.grown hg4 b3.size (fun j e => (ho3.lt j e).1)
          go_wp2_with fail
          go_roundw
          case rel =>
            refine ⟨k + 1, by omega, by go_num, ?_, ?_, b4⟩
            · rw [HN.out, bytesV_app, bytesV_app, List.length_append, List.length_append, List.append_assoc]
              exact ho4
            · rw [HN.out]
              intro b hb
              rcases List.mem_append.1 hb with hb | hb
              · rcases List.mem_append.1 hb with hb | hb
                · exact HB.out b hb
                · exact HD.out b hb
              · exact HC.out b hb
          case measure => simp [intOf]; omega
        · obtain rfl : k = ls.length := by omega
          rw [List.take_length] at ho hby
          have hr := bs_of_own hby ho
          go_wp2_with fail
          obtain ⟨va, vc, rfl, _⟩ := own_slice ho
          go_ret
          exact ⟨va, _, vc, rfl, rfl, ho, hr, hbel⟩

/-- A slice whose bytes lie in a block of bytes, from hi on. -/
def Far (hi : Nat) (w : World) (u : Value) : Prop := ∀ d n c, u = .slice (some d) n c → hi ≤ d.block ∧ ∃ cs fr, w.heap[d.block]? = some (.cells cs 5 fr)
theorem far_own {hi base n : Nat} {w : World} {u : Value} {xs : List Value} (h : w.ownsRow base 5 1 u n xs) (hb : hi ≤ base) : Far hi w u := by
  intro d m c hd
  subst hd
  rcases h.2 with ⟨h, _⟩ | ⟨g, cap, cur, he, h1, h2, _⟩
  · cases h
  · injection he with e1 _ _
    injection e1 with e1
    subst e1
    exact ⟨Nat.le_trans hb h1, cur, _, h2⟩
/-- What lies from hi on stays, and what the slices hold. -/
theorem Far.stay {hi : Nat} {w w' : World} {u : Value} (h : Far hi w u) (hk : ∀ k cs fr, hi ≤ k → w.heap[k]? = some (.cells cs 5 fr) → w'.heap[k]? = w.heap[k]?) : Far hi w' u := fun d n c e => by
  obtain ⟨h1, cs, fr, h2⟩ := h d n c e
  exact ⟨h1, cs, fr, (hk _ _ _ h1 h2).trans h2⟩
theorem parts_far {hi : Nat} {w w' : World} {vs : List Value} {ls : List (List Nat)} (hp : Parts w vs ls) (hf : ∀ u ∈ vs, Far hi w u) (hz : w.heap.size ≤ w'.heap.size) (hk : ∀ k cs fr, hi ≤ k → w.heap[k]? = some (.cells cs 5 fr) → w'.heap[k]? = w.heap[k]?) : Parts w' vs ls ∧ ∀ u ∈ vs, Far hi w' u := by
  refine ⟨hp.mono fun u l hu hb => ?_, fun u hu => (hf u hu).stay hk⟩
  obtain ⟨_, a', c', rfl, _⟩ := id hb
  refine bs_stay hb hz fun d hd => ?_
  subst hd
  obtain ⟨h1, cs, fr, h2⟩ := hf _ hu d _ _ rfl
  exact hk _ _ _ h1 h2
theorem own_off {lo hi s n : Nat} {w w' : World} {e : TypeId} {v : Value} {xs : List Value} (h : w.ownsRow hi e s v n xs) (k : Off lo hi w w') : w'.ownsRow hi e s v n xs := by
  refine ⟨h.1, ?_⟩
  rcases h.2 with h | ⟨g, cap, cur, h1, h2, h3, h4⟩
  · exact .inl h
  · exact .inr ⟨g, cap, cur, h1, h2, k.heap h3 (.inr h2), h4⟩
/-- The block of a row of slices is none of bytes. -/
theorem own_ne {base n k : Nat} {w : World} {v : Value} {xs : List Value} {cs : Array Value} {fr : Nat × Nat} (h : w.ownsRow base 22 1 v n xs) (hk : w.heap[k]? = some (.cells cs 5 fr)) : some k ≠ v.ownBlock := by
  rcases h.2 with ⟨rfl, _⟩ | ⟨g, cap, cur, rfl, h2, h3, h4⟩
  · intro e; cases e
  · intro e
    injection e with e
    subst e
    rw [hk] at h3
    injection h3 with h3
    injection h3 with _ h3 _
    exact absurd h3 (by decide)

/-- How many bytes are left, as the reader's cell tells it. -/
def leftOf (x : Option Value) : Nat := match x with | some (.slice _ n _) => n | _ => 0

set_option maxRecDepth 100000 in
set_option maxHeartbeats 4000000 in
theorem fsplit_any {w : World} {v : Value} {L : List Nat} (hx : Bs w v L) (h1 : L.length < 1000000) :
    Calls Try.prog 21 #[v] w fun f w' => ∃ a N c, f = .returned (.tuple #[.slice a N c, .int .i64 ((split L 0).2 : Int)]) ∧ Ss w' (.slice a N c) (split L 0).1 ∧ Below w.heap.size w w' := by
  obtain ⟨T, hT⟩ : ∃ T, split L 0 = T := ⟨_, rfl⟩
  rw [hT]
  have hM : Mid L 0 [] T := (join_start L).trans hT
  clear hT
  have hnew := new_any hx h1
  go_enter Try.func21, Try.ntmps21
  go_wp2_with fail
  refine hnew.mono ?_
  rintro x w1 ⟨g, hi, rfl, hR1, k1⟩
  obtain ⟨lo, hlo⟩ : ∃ lo, w.heap.size = lo := ⟨_, rfl⟩
  rw [hlo] at hR1
  have hlt1 := hR1.lt
  clear hnew
  go_wp2_with fail
  go_loopw [4] (fun o wr => ∃ (p : Nat) (pre : List (List Nat)) (vs : List Value), Rd lo hi wr g L p 0 ∧ pre.length ≤ p ∧ Mid L p pre T ∧ wr.ownsRow hi 22 1 o pre.length vs ∧ Parts wr vs pre ∧ (∀ u ∈ vs, Far hi wr u) ∧ Below w.heap.size w wr) (fun _ wr => leftOf (wr.cell? ⟨g, 0, none⟩))
  case atStart =>
    exact ⟨0, [], [], hR1, Nat.le_refl _, hM, World.ownsRow_nil _ _ _ _, Parts.nil _, by simp, k1⟩
  case round =>
    obtain ⟨p, pre, vs, hR, hpl, hj, ho, hpt, hfar, hbel⟩ := hrel
    have hpn := hR.lt.2.2.2
    have hhz := hR.lt.2.2.1
    have hl := mleft_any hR h1
    have HL0 : leftOf (wr.cell? ⟨g, 0, none⟩) = L.length - p := by
      obtain ⟨d0, c0, -, hg0, -⟩ := hR.2
      rw [cell_of hg0 0]
      rfl
    have HL := Lib.hid HL0
    clear HL0
    obtain ⟨n, hn⟩ : ∃ n, L.length - p = n := ⟨_, rfl⟩
    rw [hn] at hl
    by_cases hlt : 0 < n
    · have hlt' : (0 : Int) < (n : Int) := by omega
      have hpL : p < L.length := by omega
      obtain ⟨q, E, B, hf⟩ : ∃ q E B, frame L p 0 most = (q, E, B) := ⟨_, _, _, rfl⟩
      have hok := frame_ok (L := L) (p := p) (most := most)
      rw [hf] at hok
      dsimp only at hok
      have hend : (((E : Int) != 0) = true ∧ T = ([], E)) ∨ (E = 0 ∧ p < q ∧ q ≤ L.length ∧ Mid L q (pre ++ [B]) T) := by
        by_cases hE : E = 0
        · subst hE
          have := hok rfl hpn
          exact .inr ⟨rfl, this.1, this.2, hj.next hpL hf⟩
        · exact .inl ⟨by simp; omega, hj.bad hpL hf hE⟩
      have hfr := fun (wx : World) (h : Rd lo hi wx g L p 0) => mframe_own (n := most) h h1 (by decide) (by decide)
      rw [hf] at hfr
      unfold most at hfr
      dsimp only at hfr
      have HN := Lib.hid hn
      have HM := Lib.hid hend
      clear hok hf hj hn hend
      go_wp2_with fail
      refine hl.mono ?_
      rintro x w2 ⟨rfl, hR2, hO2⟩
      have hH := hfr w2 hR2
      clear hl hfr
      go_wp2_with fail
      refine hH.mono ?_
      rintro x w3 ⟨ua, uN, uc, rfl, huo, hub, hR3, hO3⟩
      have hE3 := merr_any hR3 h1
      clear hH
      go_wp2_with fail
      refine hE3.mono ?_
      rintro x w4 ⟨rfl, hR4, hO4⟩
      have hO := (hO2.trans hO3).trans hO4
      have hO24 := hO3.trans hO4
      have b4 : Below w.heap.size w w4 := hbel.trans (hO.below (by omega) hbel.size)
      rcases HM.out with ⟨hE, hTE⟩ | ⟨rfl, hpq, hqn, hM'⟩
      · have HT := Lib.hid hTE
        clear hTE HM hE3 hR3 hR2 hO24
        go_wp2_with fail
        go_ret2
        have hT := HT.out
        subst hT
        exact ⟨none, 0, 0, rfl, ⟨none, 0, rfl, Nat.le_refl _, .inl rfl⟩, b4⟩
      · have HT := Lib.hid hM'
        obtain ⟨hpt4, hfar4⟩ := parts_far hpt hfar hO.size (fun k cs fr h1 h2 => hO.block k (lt_of_heap h2) (by omega))
        have ho4 := own_off ho hO
        have huo4 := own_off (own_base huo (show hi ≤ w2.heap.size from Nat.le_trans hhz hO2.size)) hO4
        have hfu4 : Far hi w4 (.slice ua uN uc) := far_own huo4 (Nat.le_refl _)
        have hub4 := bs_stay hub hO4.size (fun d hd => by
          subst hd
          have := huo.lt d.block rfl
          exact hO4.block d.block this.2 (by have := hO2.size; omega))
        have hhz4 : hi ≤ w4.heap.size := Nat.le_trans hhz hO.size
        have ba := World.alloc_heap_new w4 (.cells #[.slice ua uN uc] 22)
        have b5 := b4.alloc b4.size (.cells #[.slice ua uN uc] 22)
        have ho5 := ho4.alloc (.cells #[.slice ua uN uc] 22)
        have hkeep : ∀ k, k < w4.heap.size → (w4.alloc (.cells #[.slice ua uN uc] 22)).heap[k]? = w4.heap[k]? := fun k hk => Below.heap_alloc _ _ _ hk
        have hR5 : Rd lo hi (w4.alloc (.cells #[.slice ua uN uc] 22)) g L q 0 := hR4.keep (by simp) (fun k _ hk => hkeep k (by omega))
        obtain ⟨hpt5, hfar5⟩ := parts_far (hpt4.snoc hub4) (fun u hu => by
          rcases List.mem_append.1 hu with hu | hu
          · exact hfar4 u hu
          · rw [List.mem_singleton.1 hu]; exact hfu4) (w' := w4.alloc (.cells #[.slice ua uN uc] 22)) (by simp) (fun k cs fr _ h2 => hkeep k (lt_of_heap h2))
        have hpl5 : (pre ++ [B]).length ≤ q := by simp; omega
        have HP := Lib.hid hpt5
        have HF := Lib.hid hfar5
        have HR := Lib.hid hR5
        have hqb : q ≤ 1000000 := by omega
        have hbig : pre.length ≤ 1000000000 := by omega
        have hz5 : hi ≤ (w4.alloc (.cells #[.slice ua uN uc] 22)).heap.size := by simp; omega
        have hmeas : L.length - q < L.length - p := by omega
        clear hpt4 hfar4 hub4 hfu4 huo4 hpt5 hfar5 hR5 hkeep HM hE3 hR3 hR2 hO24 hM' ho4 huo hub hpt hfar hR hR4
        go_wp2_with (at_builtin; refine wp_append_one rfl _ _ rfl hi rfl rfl ho5 ba ?d1 ?d2 ?_)
        case d1 => exact hbig
        case d2 => exact hz5
        intro v6 w6 ho6 hg6
        have hne6 : ∀ k cs fr, hi ≤ k → (w4.alloc (.cells #[.slice ua uN uc] 22)).heap[k]? = some (.cells cs 5 fr) → w6.heap[k]? = (w4.alloc (.cells #[.slice ua uN uc] 22)).heap[k]? := fun k cs fr _ h2 => hg6.block k (lt_of_heap h2) (own_ne ho5 h2)
        obtain ⟨hpt6, hfar6⟩ := parts_far HP.out HF.out hg6.size hne6
        have hR6 : Rd lo hi w6 g L q 0 := HR.out.keep hg6.size (fun k _ hk => hg6.block k (by omega) (fun e => by have := (ho5.lt k e.symm).1; omega))
        have b6 : Below w.heap.size w w6 := b5.grown hg6 (by have := hR6.lt; omega) (fun j e => by have := (ho5.lt j e).1; have := hR6.lt; omega)
        obtain ⟨dl, cl, -, hgl, -⟩ := id hR6.2
        have cl0 := cell_of hgl 0
        go_wp2_with fail
        go_roundw
        case rel =>
          refine ⟨q, pre ++ [B], vs ++ [.slice ua uN uc], hR6, hpl5, HT.out, ?_, hpt6, hfar6, b6⟩
          rw [List.length_append]
          exact ho6
        case measure =>
          rw [HL.out, cl0]
          exact hmeas
    · obtain rfl : n = 0 := by omega
      have hT := hj.done (show L.length ≤ p by omega)
      obtain ⟨oa, oc, rfl, _⟩ := own_slice ho
      have HP := Lib.hid hpt
      have HF := Lib.hid hfar
      have HT := Lib.hid hT
      clear hT hpt hfar hj hn
      go_wp2_with fail
      refine hl.mono ?_
      rintro x w2 ⟨rfl, hR2, hO2⟩
      have b2 : Below w.heap.size w w2 := hbel.trans (hO2.below (by omega) hbel.size)
      clear hl
      go_wp2_with fail
      go_ret2
      have hT := HT.out
      subst hT
      have hpo := parts_far HP.out HF.out hO2.size (fun k cs fr h1 h2 => hO2.block k (lt_of_heap h2) (by omega))
      exact ⟨oa, _, oc, rfl, ss_of_own (own_off ho hO2) rfl hpo.1, b2⟩
end Go.Proofs.Ytkbdahbnjklkoaa.Frm
