/- A part of what twice_holds leans on (its texts, put together). Nothing is claimed here. -/
import Derived.Test.YtlfbnfphocpgeaaGreatDoorTw37
namespace Go.Proofs.YtlfbnfphocpgeaaGreatDoor.Tre
open Go.RowKit Kit Txt
open Num (Dec zero)
theorem count_pos (v : Val) : 1 ≤ count v := by
  obtain ⟨_, _, _, _, _, _⟩ := v
  rw [count]
  omega
end Go.Proofs.YtlfbnfphocpgeaaGreatDoor.Tre
namespace Go.Proofs.YtlfbnfphocpgeaaGreatDoor.Tre
open Go.RowKit Kit Txt
open Num (Dec zero)
def Blk (w : World) (g : Nat) : Prop := ∃ (arr : Array Value) (t : TypeId), w.heap[g]? = some (.cells arr t (0, 0))
theorem Blk.free {w : World} {g : Nat} (h : Blk w g) (i : Nat) : w.frozen? ⟨g, i, none⟩ = false := by
  obtain ⟨arr, t, h⟩ := h
  exact free_of h i
theorem Blk.lt {w : World} {g : Nat} (h : Blk w g) : g < w.heap.size := by
  obtain ⟨arr, t, h⟩ := h
  exact lt_of_heap h
theorem Blk.keep {w w' : World} {g : Nat} (h : Blk w g) (k : w'.heap[g]? = w.heap[g]?) : Blk w' g := by
  obtain ⟨arr, t, h⟩ := h
  exact ⟨arr, t, k.trans h⟩
def SepK (w : World) (lo hi : Nat) (u : Value) (ls : List (List UInt8)) : Prop :=
  ∃ a c, u = .slice a ls.length c ∧ ls.length ≤ c ∧ c ≤ 9223372036854775807 ∧ (ls = [] ∨ ∃ g, a = some ⟨g, 0, none⟩ ∧ lo ≤ g ∧ g < hi ∧ Blk w g ∧ ∀ (i : Nat) (l : List UInt8), ls[i]? = some l → w.cell? ⟨g, i, none⟩ = some (.string (txt l)))
mutual
def Sep (w : World) (lo hi : Nat) (cs : List Value) : Val → Prop
  | ⟨k, i, n, s, ks, vs⟩ => ∃ uk a c p, cs = cellsV k i n s uk (.slice a vs.length c) ∧ lo ≤ p ∧ p ≤ hi ∧ SepK w lo p uk ks ∧ vs.length ≤ c ∧ c ≤ 9223372036854775807 ∧ (vs = [] ∨ ∃ g, a = some ⟨g, 0, none⟩ ∧ p ≤ g ∧ g < hi ∧ Blk w g ∧ Seps w (g + 1) hi g 0 vs)
def Seps (w : World) (lo hi g off : Nat) : List Val → Prop
  | [] => lo ≤ hi
  | v :: r => ∃ m, lo ≤ m ∧ (∃ cs, At8 w g off cs ∧ Sep w lo m cs v) ∧ Seps w m hi g (off + 8) r
end
theorem Seps.le {w : World} {g : Nat} : ∀ {vs : List Val} {lo hi off : Nat}, Seps w lo hi g off vs → lo ≤ hi
  | [], _, _, _, h => by rwa [Seps] at h
  | v :: r, lo, hi, off, h => by
    rw [Seps] at h
    obtain ⟨m, h1, _, h2⟩ := h
    exact Nat.le_trans h1 (Seps.le h2)
theorem SepK.keep {w w' : World} {lo hi : Nat} {u : Value} {ls : List (List UInt8)} (h : SepK w lo hi u ls) (hk : ∀ g, lo ≤ g → g < hi → w'.heap[g]? = w.heap[g]?) : SepK w' lo hi u ls := by
  obtain ⟨a, c, hu, h1, h2, h3⟩ := h
  refine ⟨a, c, hu, h1, h2, h3.imp id ?_⟩
  rintro ⟨g, ha, hl, hh, hb, hx⟩
  exact ⟨g, ha, hl, hh, hb.keep (hk g hl hh), fun i l hi => cell_keep (hx i l hi) (hk g hl hh)⟩
theorem SepK.mono {w : World} {lo hi lo' hi' : Nat} {u : Value} {ls : List (List UInt8)} (h : SepK w lo hi u ls) (h1 : lo' ≤ lo) (h2 : hi ≤ hi') : SepK w lo' hi' u ls := by
  obtain ⟨a, c, hu, e1, e2, h3⟩ := h
  refine ⟨a, c, hu, e1, e2, h3.imp id ?_⟩
  rintro ⟨g, ha, hl, hh, hb, hx⟩
  exact ⟨g, ha, Nat.le_trans h1 hl, Nat.lt_of_lt_of_le hh h2, hb, hx⟩
mutual
theorem Sep.keep {w w' : World} : ∀ (v : Val) {lo hi : Nat} {cs : List Value}, (∀ g, lo ≤ g → g < hi → w'.heap[g]? = w.heap[g]?) → Sep w lo hi cs v → Sep w' lo hi cs v
  | ⟨k, i, n, s, ks, vs⟩, lo, hi, cs, hk, h => by
    rw [Sep] at h ⊢
    obtain ⟨uk, a, c, p, hcs, h1, h2, hK, hc, hm, hv⟩ := h
    refine ⟨uk, a, c, p, hcs, h1, h2, hK.keep fun g hl hh => hk g hl (Nat.lt_of_lt_of_le hh h2), hc, hm, hv.imp id ?_⟩
    rintro ⟨g, ha, hl, hh, hb, hx⟩
    have e := hk g (Nat.le_trans h1 hl) hh
    exact ⟨g, ha, hl, hh, hb.keep e, Seps.keep vs (fun q h1' h2' => hk q (by omega) h2') (fun i _ _ => by unfold World.cell?; rw [e]) hx⟩
theorem Seps.keep {w w' : World} : ∀ (vs : List Val) {lo hi g off : Nat}, (∀ q, lo ≤ q → q < hi → w'.heap[q]? = w.heap[q]?) → (∀ i, off ≤ i → i < off + 8 * vs.length → w'.cell? ⟨g, i, none⟩ = w.cell? ⟨g, i, none⟩) → Seps w lo hi g off vs → Seps w' lo hi g off vs
  | [], _, _, _, _, _, _, h => by
    rw [Seps] at h ⊢
    exact h
  | v :: r, lo, hi, g, off, hk, hc, h => by
    rw [Seps] at h ⊢
    obtain ⟨m, h1, ⟨cs, h8, hv⟩, hr⟩ := h
    have hle := Seps.le hr
    refine ⟨m, h1, ⟨cs, ⟨h8.1, fun j hj => (hc (off + j) (by omega) (by simp; omega)).trans (h8.2 j hj)⟩, Sep.keep v (fun q a b => hk q a (by omega)) hv⟩, Seps.keep r (fun q a b => hk q (by omega) b) (fun i a b => hc i (by omega) (by simp; omega)) hr⟩
end
theorem Seps.mono {w : World} {g : Nat} : ∀ {vs : List Val} {lo hi hi' off : Nat}, Seps w lo hi g off vs → hi ≤ hi' → Seps w lo hi' g off vs
  | [], lo, hi, hi', off, h, hh => by
    rw [Seps] at h ⊢
    omega
  | v :: r, lo, hi, hi', off, h, hh => by
    rw [Seps] at h ⊢
    obtain ⟨m, h1, h2, hr⟩ := h
    exact ⟨m, h1, h2, Seps.mono hr hh⟩
theorem Sep.mono {w : World} {lo hi hi' : Nat} {cs : List Value} {v : Val} (h : Sep w lo hi cs v) (hh : hi ≤ hi') : Sep w lo hi' cs v := by
  obtain ⟨k, i, n, s, ks, vs⟩ := v
  rw [Sep] at h ⊢
  obtain ⟨uk, a, c, p, hcs, h1, h2, hK, hc, hm, hv⟩ := h
  refine ⟨uk, a, c, p, hcs, h1, by omega, hK, hc, hm, hv.imp id ?_⟩
  rintro ⟨g, ha, hl, hg, hb, hx⟩
  exact ⟨g, ha, hl, by omega, hb, hx.mono hh⟩
theorem Sep.lower {w : World} {lo lo' hi : Nat} {cs : List Value} {v : Val} (h : Sep w lo hi cs v) (hh : lo' ≤ lo) : Sep w lo' hi cs v := by
  obtain ⟨k, i, n, s, ks, vs⟩ := v
  rw [Sep] at h ⊢
  obtain ⟨uk, a, c, p, hcs, h1, h2, hK, hc, hm, hv⟩ := h
  exact ⟨uk, a, c, p, hcs, by omega, h2, hK.mono hh (Nat.le_refl _), hc, hm, hv⟩
theorem Seps.snoc {w : World} {g : Nat} {v : Val} {cs : List Value} : ∀ {vs : List Val} {lo m hi off : Nat}, Seps w lo m g off vs → m ≤ hi → At8 w g (off + 8 * vs.length) cs → Sep w m hi cs v → Seps w lo hi g off (vs ++ [v])
  | [], lo, m, hi, off, h, hm, h8, hv => by
    rw [Seps] at h
    rw [List.nil_append, Seps]
    refine ⟨hi, by omega, ⟨cs, by simpa using h8, hv.lower h⟩, by rw [Seps]; omega⟩
  | x :: r, lo, m, hi, off, h, hm, h8, hv => by
    rw [Seps] at h
    obtain ⟨m', h1, h2, hr⟩ := h
    rw [List.cons_append, Seps]
    exact ⟨m', h1, h2, Seps.snoc hr hm (by rw [show off + 8 + 8 * r.length = off + 8 * (x :: r).length by simp; omega]; exact h8) hv⟩
theorem Seps.at {w : World} {g : Nat} : ∀ {vs : List Val} {lo hi off : Nat}, Seps w lo hi g off vs → ∀ {i : Nat} {v : Val}, vs[i]? = some v → ∃ l h cs, lo ≤ l ∧ l ≤ h ∧ h ≤ hi ∧ At8 w g (off + i * 8) cs ∧ Sep w l h cs v
  | [], _, _, _, _, _, _, hi => by simp at hi
  | x :: r, lo, hi', off, h, 0, v, hi => by
    rw [Seps] at h
    obtain ⟨m, h1, ⟨cs, h8, hv⟩, hr⟩ := h
    simp at hi
    subst hi
    exact ⟨lo, m, cs, Nat.le_refl _, h1, Seps.le hr, by simpa using h8, hv⟩
  | x :: r, lo, hi', off, h, i + 1, v, hi => by
    rw [Seps] at h
    obtain ⟨m, h1, _, hr⟩ := h
    obtain ⟨l, h', cs, e1, e2, e3, e4, e5⟩ := Seps.at hr (i := i) (v := v) (by simpa using hi)
    exact ⟨l, h', cs, by omega, e2, e3, by rwa [show off + (i + 1) * 8 = off + 8 + i * 8 by omega], e5⟩
mutual
theorem Sep.holdP {w : World} : ∀ (v : Val) {lo hi : Nat} {cs : List Value}, Sep w lo hi cs v → HoldP (fun g => lo ≤ g ∧ g < hi) w cs v
  | ⟨k, i, n, s, ks, vs⟩, lo, hi, cs, h => by
    rw [Sep] at h
    rw [HoldP]
    obtain ⟨uk, a, c, p, hcs, h1, h2, ⟨ak, ck, huk, hck, hmk, hK⟩, hc, hm, hv⟩ := h
    refine ⟨uk, a, c, hcs, ⟨ak, ck, huk, hck, hmk, hK.imp id ?_⟩, hc, hm, hv.imp id ?_⟩
    · rintro ⟨g, ha, hl, hh, hb, hx⟩
      exact ⟨g, 0, ha, ⟨hl, by omega⟩, hb.lt, fun i l hi => by rw [Nat.zero_add]; exact hx i l hi⟩
    · rintro ⟨g, ha, hl, hh, hb, hx⟩
      exact ⟨g, 0, ha, ⟨by omega, hh⟩, hb.lt, HoldsP.mono (fun q hq _ => ⟨by omega, hq.2⟩) vs (Seps.holdsP vs hx)⟩
theorem Seps.holdsP {w : World} : ∀ (vs : List Val) {lo hi g off : Nat}, Seps w lo hi g off vs → HoldsP (fun q => lo ≤ q ∧ q < hi) w g off vs
  | [], _, _, _, _, _ => by rw [HoldsP]; trivial
  | v :: r, lo, hi, g, off, h => by
    rw [Seps] at h
    rw [HoldsP]
    obtain ⟨m, h1, ⟨cs, h8, hv⟩, hr⟩ := h
    have hle := Seps.le hr
    exact ⟨⟨cs, h8, HoldP.mono (fun q hq _ => ⟨hq.1, by omega⟩) v (Sep.holdP v hv)⟩, HoldsP.mono (fun q hq _ => ⟨by omega, hq.2⟩) r (Seps.holdsP r hr)⟩
end
theorem ShpKs.mono {D E : Nat → Prop} {m : Nat} {w : World} {u : Value} {n : Nat} (h : ShpKs D m w u n) (hDE : ∀ g, D g → E g) : ShpKs E m w u n := by
  obtain ⟨a, c, hu, h1, h2, h3⟩ := h
  refine ⟨a, c, hu, h1, h2, h3.imp id ?_⟩
  rintro ⟨g, off, ha, hD, hx⟩
  exact ⟨g, off, ha, hDE g hD, hx⟩
mutual
theorem ShpAt.mono {D E : Nat → Prop} {m : Nat} {w : World} (hDE : ∀ g, D g → E g) : ∀ (v : Val) {g off : Nat}, ShpAt D m w g off v → ShpAt E m w g off v
  | ⟨_, _, _, _, ks, vs⟩, g, off, h => by
    rw [ShpAt] at h ⊢
    obtain ⟨h5, ⟨u, h6, hks⟩, a, c, h7, hl1, hl2, hx⟩ := h
    refine ⟨h5, ⟨u, h6, hks.mono hDE⟩, a, c, h7, hl1, hl2, hx.imp id ?_⟩
    rintro ⟨g', off', ha, hD, hv⟩
    exact ⟨g', off', ha, hDE g' hD, ShpsAt.mono hDE vs hv⟩
theorem ShpsAt.mono {D E : Nat → Prop} {m : Nat} {w : World} (hDE : ∀ g, D g → E g) : ∀ (vs : List Val) {g off : Nat}, ShpsAt D m w g off vs → ShpsAt E m w g off vs
  | [], _, _, _ => by rw [ShpsAt]; trivial
  | v :: r, g, off, h => by
    rw [ShpsAt] at h ⊢
    exact ⟨ShpAt.mono hDE v h.1, ShpsAt.mono hDE r h.2⟩
end
end Go.Proofs.YtlfbnfphocpgeaaGreatDoor.Tre
