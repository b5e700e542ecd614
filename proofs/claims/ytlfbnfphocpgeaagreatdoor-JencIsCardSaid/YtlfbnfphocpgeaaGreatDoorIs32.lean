/- A part of what is_holds leans on (its texts, put together). Nothing is claimed here. -/
import Derived.Test.YtlfbnfphocpgeaaGreatDoorIs31
namespace Go.Proofs.YtlfbnfphocpgeaaGreatDoor.Jenc
open Go.RowKit Kit Txt
open Tre (Val Whole)
open Emb (Turn Emb)
theorem lies_narrow : Emb.Lies 64 2 := ⟨by kernel_rfl, by decide⟩
theorem flatten_len {ps : List (List UInt8)} (h : ∀ m ∈ ps, m.length ≤ 100000) : ps.flatten.length ≤ 100000 * ps.length := by
 induction ps with
 | nil => exact Nat.zero_le _
 | cons p r ih =>
   have h1 := h p (by simp)
   have h2 := ih fun m hm => h m (List.mem_cons_of_mem _ hm)
   rw [List.flatten_cons, List.length_append, List.length_cons]
   omega
def NSt (P B : Nat) (ps : List (List UInt8)) (w : World) : Prop := Emb 64 B P ps.flatten [] w ∧ ∀ m ∈ ps, m.length ≤ 100000
set_option maxRecDepth 100000 in
set_option maxHeartbeats 1000000 in
theorem narrow_printer (P B : Nat) : Printer 66 228 P B (fun _ => True) (NSt P B) where
 ahead := fun w => by kernel_rfl
 meth := fun w => by kernel_rfl
 call := fun m w => rfl
 step := fun ps m w hs hm hl _ => by
   obtain ⟨he, hb⟩ := hs
   have hfl := flatten_len hb
   have hst := Emb.str_any (T := 64) (rest := []) lies_narrow he (m := m) (by omega)
   have HST := Lib.hid hst
   have HB := Lib.hid hb
   clear hst hb he hfl
   go_enter Tryz.func228, Tryz.ntmps228
   go_wp2_with fail
   refine HST.out.mono ?_
   rintro e w2 ⟨rfl, h2, t2⟩
   go_wp2_with fail
   go_end0
   refine ⟨rfl, ⟨?_, fun x hx => ?_⟩, t2⟩
   · rw [List.flatten_append]
     exact .inr (by simpa using h2)
   · rcases List.mem_append.1 hx with hx | hx
     · exact HB.out x hx
     · rw [List.mem_singleton.1 hx]
       exact hm
 pre := fun _ _ _ => trivial
 keep := fun ps w w' h k => ⟨h.1.kept k, h.2⟩
 low := fun ps w h => ⟨h.1.lt.1, h.1.lt.2.1, h.1.lt.2.2⟩
end Go.Proofs.YtlfbnfphocpgeaaGreatDoor.Jenc
namespace Go.Proofs.YtlfbnfphocpgeaaGreatDoor.Tre
open Go.RowKit Kit Txt
open Num (Dec zero)
theorem set8_own {W : World} {g : Nat} {a' b' c' d' e' f' x' y' : Value} {t : TypeId} {fr : Nat × Nat} (h : W.heap[g]? = some (.cells #[a', b', c', d', e', f', x', y'] t fr)) (a b c d e f x y : Value) : ((((((((W.setCell ⟨g, 0, none⟩ a).setCell ⟨g, 1, none⟩ b).setCell ⟨g, 2, none⟩ c).setCell ⟨g, 3, none⟩ d).setCell ⟨g, 4, none⟩ e).setCell ⟨g, 5, none⟩ f).setCell ⟨g, 6, none⟩ x).setCell ⟨g, 7, none⟩ y).heap[g]? = some (.cells #[a, b, c, d, e, f, x, y] t fr) := by
 have := (set_of (set_of (set_of (set_of (set_of (set_of (set_of (set_of h 0 a) 1 b) 2 c) 3 d) 4 e) 5 f) 6 x) 7 y)
 simpa using this
end Go.Proofs.YtlfbnfphocpgeaaGreatDoor.Tre
namespace Go.Proofs.YtlfbnfphocpgeaaGreatDoor.Tre
open Go.RowKit Kit Txt
open Num (Dec zero)
theorem count_pos (v : Val) : 1 ≤ count v := by
 obtain ⟨_, _, _, _, _, _⟩ := v
 rw [count]
 omega
end Go.Proofs.YtlfbnfphocpgeaaGreatDoor.Tre
namespace Go.Proofs.YtlfbnfphocpgeaaGreatDoor.Tre
open Go.RowKit Kit Txt
open Num (Dec zero)
def Blk (w : World) (g : Nat) : Prop := ∃ (arr : Array Value) (t : TypeId), w.heap[g]? = some (.cells arr t (0, 0))
theorem Blk.free {w : World} {g : Nat} (h : Blk w g) (i : Nat) : w.frozen? ⟨g, i, none⟩ = false := by
 obtain ⟨arr, t, h⟩ := h
 exact free_of h i
theorem Blk.lt {w : World} {g : Nat} (h : Blk w g) : g < w.heap.size := by
 obtain ⟨arr, t, h⟩ := h
 exact lt_of_heap h
theorem Blk.keep {w w' : World} {g : Nat} (h : Blk w g) (k : w'.heap[g]? = w.heap[g]?) : Blk w' g := by
 obtain ⟨arr, t, h⟩ := h
 exact ⟨arr, t, k.trans h⟩
def SepK (w : World) (lo hi : Nat) (u : Value) (ls : List (List UInt8)) : Prop :=
 ∃ a c, u = .slice a ls.length c ∧ ls.length ≤ c ∧ c ≤ 9223372036854775807 ∧ (ls = [] ∨ ∃ g, a = some ⟨g, 0, none⟩ ∧ lo ≤ g ∧ g < hi ∧ Blk w g ∧ ∀ (i : Nat) (l : List UInt8), ls[i]? = some l → w.cell? ⟨g, i, none⟩ = some (.string (txt l)))
mutual
def Sep (w : World) (lo hi : Nat) (cs : List Value) : Val → Prop
 | ⟨k, i, n, s, ks, vs⟩ => ∃ uk a c p, cs = cellsV k i n s uk (.slice a vs.length c) ∧ lo ≤ p ∧ p ≤ hi ∧ SepK w lo p uk ks ∧ vs.length ≤ c ∧ c ≤ 9223372036854775807 ∧ (vs = [] ∨ ∃ g, a = some ⟨g, 0, none⟩ ∧ p ≤ g ∧ g < hi ∧ Blk w g ∧ Seps w (g + 1) hi g 0 vs)
def Seps (w : World) (lo hi g off : Nat) : List Val → Prop
 | [] => lo ≤ hi
 | v :: r => ∃ m, lo ≤ m ∧ (∃ cs, At8 w g off cs ∧ Sep w lo m cs v) ∧ Seps w m hi g (off + 8) r
end
theorem Seps.le {w : World} {g : Nat} : ∀ {vs : List Val} {lo hi off : Nat}, Seps w lo hi g off vs → lo ≤ hi
 | [], _, _, _, h => by rwa [Seps] at h
 | v :: r, lo, hi, off, h => by
   rw [Seps] at h
   obtain ⟨m, h1, _, h2⟩ := h
   exact Nat.le_trans h1 (Seps.le h2)
theorem SepK.keep {w w' : World} {lo hi : Nat} {u : Value} {ls : List (List UInt8)} (h : SepK w lo hi u ls) (hk : ∀ g, lo ≤ g → g < hi → w'.heap[g]? = w.heap[g]?) : SepK w' lo hi u ls := by
 obtain ⟨a, c, hu, h1, h2, h3⟩ := h
 refine ⟨a, c, hu, h1, h2, h3.imp id ?_⟩
 rintro ⟨g, ha, hl, hh, hb, hx⟩
 exact ⟨g, ha, hl, hh, hb.keep (hk g hl hh), fun i l hi => cell_keep (hx i l hi) (hk g hl hh)⟩
theorem SepK.mono {w : World} {lo hi lo' hi' : Nat} {u : Value} {ls : List (List UInt8)} (h : SepK w lo hi u ls) (h1 : lo' ≤ lo) (h2 : hi ≤ hi') : SepK w lo' hi' u ls := by
 obtain ⟨a, c, hu, e1, e2, h3⟩ := h
 refine ⟨a, c, hu, e1, e2, h3.imp id ?_⟩
 rintro ⟨g, ha, hl, hh, hb, hx⟩
 exact ⟨g, ha, Nat.le_trans h1 hl, Nat.lt_of_lt_of_le hh h2, hb, hx⟩
mutual
theorem Sep.keep {w w' : World} : ∀ (v : Val) {lo hi : Nat} {cs : List Value}, (∀ g, lo ≤ g → g < hi → w'.heap[g]? = w.heap[g]?) → Sep w lo hi cs v → Sep w' lo hi cs v
 | ⟨k, i, n, s, ks, vs⟩, lo, hi, cs, hk, h => by
   rw [Sep] at h ⊢
   obtain ⟨uk, a, c, p, hcs, h1, h2, hK, hc, hm, hv⟩ := h
   refine ⟨uk, a, c, p, hcs, h1, h2, hK.keep fun g hl hh => hk g hl (Nat.lt_of_lt_of_le hh h2), hc, hm, hv.imp id ?_⟩
   rintro ⟨g, ha, hl, hh, hb, hx⟩
   have e := hk g (Nat.le_trans h1 hl) hh
   exact ⟨g, ha, hl, hh, hb.keep e, Seps.keep vs (fun q h1' h2' => hk q (by omega) h2') (fun i _ _ => by unfold World.cell?; rw [e]) hx⟩
theorem Seps.keep {w w' : World} : ∀ (vs : List Val) {lo hi g off : Nat}, (∀ q, lo ≤ q → q < hi → w'.heap[q]? = w.heap[q]?) → (∀ i, off ≤ i → i < off + 8 * vs.length → w'.cell? ⟨g, i, none⟩ = w.cell? ⟨g, i, none⟩) → Seps w lo hi g off vs → Seps w' lo hi g off vs
 | [], _, _, _, _, _, _, h => by
   rw [Seps] at h ⊢
   exact h
 | v :: r, lo, hi, g, off, hk, hc, h => by
   rw [Seps] at h ⊢
   obtain ⟨m, h1, ⟨cs, h8, hv⟩, hr⟩ := h
   have hle := Seps.le hr
   refine ⟨m, h1, ⟨cs, ⟨h8.1, fun j hj => (hc (off + j) (by omega) (by simp; omega)).trans (h8.2 j hj)⟩, Sep.keep v (fun q a b => hk q a (by omega)) hv⟩, Seps.keep r (fun q a b => hk q (by omega) b) (fun i a b => hc i (by omega) (by simp; omega)) hr⟩
end
theorem Seps.mono {w : World} {g : Nat} : ∀ {vs : List Val} {lo hi hi' off : Nat}, Seps w lo hi g off vs → hi ≤ hi' → Seps w lo hi' g off vs
 | [], lo, hi, hi', off, h, hh => by
   rw [Seps] at h ⊢
   omega
 | v :: r, lo, hi, hi', off, h, hh => by
   rw [Seps] at h ⊢
   obtain ⟨m, h1, h2, hr⟩ := h
   exact ⟨m, h1, h2, Seps.mono hr hh⟩
theorem Sep.mono {w : World} {lo hi hi' : Nat} {cs : List Value} {v : Val} (h : Sep w lo hi cs v) (hh : hi ≤ hi') : Sep w lo hi' cs v := by
 obtain ⟨k, i, n, s, ks, vs⟩ := v
 rw [Sep] at h ⊢
 obtain ⟨uk, a, c, p, hcs, h1, h2, hK, hc, hm, hv⟩ := h
 refine ⟨uk, a, c, p, hcs, h1, by omega, hK, hc, hm, hv.imp id ?_⟩
 rintro ⟨g, ha, hl, hg, hb, hx⟩
 exact ⟨g, ha, hl, by omega, hb, hx.mono hh⟩
theorem Sep.lower {w : World} {lo lo' hi : Nat} {cs : List Value} {v : Val} (h : Sep w lo hi cs v) (hh : lo' ≤ lo) : Sep w lo' hi cs v := by
 obtain ⟨k, i, n, s, ks, vs⟩ := v
 rw [Sep] at h ⊢
 obtain ⟨uk, a, c, p, hcs, h1, h2, hK, hc, hm, hv⟩ := h
 exact ⟨uk, a, c, p, hcs, by omega, h2, hK.mono hh (Nat.le_refl _), hc, hm, hv⟩
theorem Seps.snoc {w : World} {g : Nat} {v : Val} {cs : List Value} : ∀ {vs : List Val} {lo m hi off : Nat}, Seps w lo m g off vs → m ≤ hi → At8 w g (off + 8 * vs.length) cs → Sep w m hi cs v → Seps w lo hi g off (vs ++ [v])
 | [], lo, m, hi, off, h, hm, h8, hv => by
   rw [Seps] at h
   rw [List.nil_append, Seps]
   refine ⟨hi, by omega, ⟨cs, by simpa using h8, hv.lower h⟩, by rw [Seps]; omega⟩
 | x :: r, lo, m, hi, off, h, hm, h8, hv => by
   rw [Seps] at h
   obtain ⟨m', h1, h2, hr⟩ := h
   rw [List.cons_append, Seps]
   exact ⟨m', h1, h2, Seps.snoc hr hm (by rw [show off + 8 + 8 * r.length = off + 8 * (x :: r).length by simp; omega]; exact h8) hv⟩
mutual
theorem Sep.holdP {w : World} : ∀ (v : Val) {lo hi : Nat} {cs : List Value}, Sep w lo hi cs v → HoldP (fun g => lo ≤ g ∧ g < hi) w cs v
 | ⟨k, i, n, s, ks, vs⟩, lo, hi, cs, h => by
   rw [Sep] at h
   rw [HoldP]
   obtain ⟨uk, a, c, p, hcs, h1, h2, ⟨ak, ck, huk, hck, hmk, hK⟩, hc, hm, hv⟩ := h
   refine ⟨uk, a, c, hcs, ⟨ak, ck, huk, hck, hmk, hK.imp id ?_⟩, hc, hm, hv.imp id ?_⟩
   · rintro ⟨g, ha, hl, hh, hb, hx⟩
     exact ⟨g, 0, ha, ⟨hl, by omega⟩, hb.lt, fun i l hi => by rw [Nat.zero_add]; exact hx i l hi⟩
   · rintro ⟨g, ha, hl, hh, hb, hx⟩
     exact ⟨g, 0, ha, ⟨by omega, hh⟩, hb.lt, HoldsP.mono (fun q hq _ => ⟨by omega, hq.2⟩) vs (Seps.holdsP vs hx)⟩
theorem Seps.holdsP {w : World} : ∀ (vs : List Val) {lo hi g off : Nat}, Seps w lo hi g off vs → HoldsP (fun q => lo ≤ q ∧ q < hi) w g off vs
 | [], _, _, _, _, _ => by rw [HoldsP]; trivial
 | v :: r, lo, hi, g, off, h => by
   rw [Seps] at h
   rw [HoldsP]
   obtain ⟨m, h1, ⟨cs, h8, hv⟩, hr⟩ := h
   have hle := Seps.le hr
   exact ⟨⟨cs, h8, HoldP.mono (fun q hq _ => ⟨hq.1, by omega⟩) v (Sep.holdP v hv)⟩, HoldsP.mono (fun q hq _ => ⟨by omega, hq.2⟩) r (Seps.holdsP r hr)⟩
end
end Go.Proofs.YtlfbnfphocpgeaaGreatDoor.Tre
