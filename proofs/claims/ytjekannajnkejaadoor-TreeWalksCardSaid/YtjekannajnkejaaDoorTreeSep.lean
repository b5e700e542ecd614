/- Writing over all texts of a value (the law's own function spoil). Values of api.Value in memory of their own, part by part: the blocks of the keys, of the kids' row and of each kid lie in intervals that don't meet. Nothing is claimed here. -/
import Derived.Test.YtjekannajnkejaaDoorTreeShape
import Derived.Test.YtjekannajnkejaaDoorTreeRoom
import Derived.Lib.Hide
import Derived.Test.YtjekannajnkejaaDoorTreeAt
namespace Go.Proofs.YtjekannajnkejaaDoor.Tre
open Go.RowKit Kit Txt
open Num (Dec zero)

theorem counts_step {vs : List Val} {j : Nat} (h : j < vs.length) : counts (vs.take (j + 1)) = counts (vs.take j) + count vs[j] := by
  rw [List.take_succ_eq_append_getElem h, counts_snoc]
theorem counts_take_le : ∀ (vs : List Val) (j : Nat), counts (vs.take j) ≤ counts vs
  | [], j => by simp
  | v :: r, 0 => by simp [counts]
  | v :: r, j + 1 => by
    rw [List.take_succ_cons, counts, counts]
    have := counts_take_le r j
    omega
theorem count_pos (v : Val) : 1 ≤ count v := by
  obtain ⟨_, _, _, _, _, _⟩ := v
  rw [count]
  omega

set_option maxRecDepth 100000 in
set_option maxHeartbeats 4000000 in
theorem spoil_any {D : Nat → Prop} {lo : Nat} (hD : ∀ g, D g → lo ≤ g) : ∀ (v : Val) (w : World) (g off m : Nat), ShpAt D m w g off v → m + count v ≤ 1000000 → Calls Tryd.prog 19 #[.pointer (some ⟨g, off, none⟩)] w fun e w' => e = .returned (.tuple #[]) ∧ StrStep D (count v - 1) w w' ∧ Below lo w w' := by
  refine ind1 fun v ih w g off m h hm => ?_
  obtain ⟨k, b, n, s, ks, vs⟩ := v
  have hck : count ⟨k, b, n, s, ks, vs⟩ = 1 + ks.length + counts vs := by rw [count]
  rw [ShpAt] at h
  obtain ⟨-, ⟨u, h6, hk⟩, a, c, h7, hl1, hl2, hx⟩ := h
  obtain ⟨pk, ck, rfl, hk1, hk2, hkx⟩ := hk
  rw [hck] at hm
  have hc1 : 1 + ks.length + counts vs - 1 = ks.length + counts vs := by omega
  have ih' : ∀ x ∈ vs, ∀ (w : World) (g off m : Nat), ShpAt D m w g off x → m + count x ≤ 1000000 → Calls Tryd.prog 19 #[.pointer (some ⟨g, off, none⟩)] w fun e w' => e = .returned (.tuple #[]) ∧ StrStep D (count x - 1) w w' ∧ Below lo w w' := ih
  rw [hck, hc1]
  clear ih hck hc1
  generalize hnk : ks.length = nk at *
  generalize hnv : vs.length = nv at *
  have HNK := Lib.hid hnk
  have HNV := Lib.hid hnv
  clear hnk hnv
  have hnk1 : nk ≤ 1000000 := by omega
  have HX := Lib.hid hx
  have HKX := Lib.hid hkx
  clear hx hkx
  go_enter Tryd.func19, Tryd.ntmps19
  go_wp2_with fail
  go_loopw [9] (fun y wr => ∃ j : Nat, j ≤ nk ∧ y = .int .i64 j ∧ StrStep D j w wr ∧ Below lo w wr) (fun y _ => nk - (intOf y).toNat)
  case atStart => exact ⟨0, Nat.zero_le _, rfl, StrStep.refl D w, Below.refl _ _⟩
  case round =>
    obtain ⟨j, hj, rfl, hs, hb⟩ := hrel
    have d6 := hs.keep h6 (fun t e => by injection e)
    have d7 := hs.keep h7 (fun t e => by injection e)
    by_cases hlt : j < nk
    · have hlt' : (j : Int) < (nk : Int) := by omega
      rcases HKX.out with h0 | ⟨gk, ok, rfl, hDk, hkx⟩
      · omega
      obtain ⟨t, t1, t2, t3⟩ := hs.str (hkx j hlt)
      have hsz : ¬ (9223372036854775807 < t.size + 1) := by omega
      have wk : IntKind.i64.wrap ((j : Int) + 1) = (j : Int) + 1 := by simp only [IntKind.wrap, IntKind.signed, IntKind.bits]; simp; omega
      clear hkx d7
      go_wp2_with fail
      go_roundw
      case rel => exact ⟨j + 1, by omega, by go_num, hs.trans (StrStep.one hDk t1 (by rw [ByteArray.size_append]; exact Nat.le_refl _)), hb.setCell (p := ⟨gk, ok + j, none⟩) (hD _ hDk) _⟩
      case measure => simp [intOf]; omega
    · obtain rfl : j = nk := by omega
      go_wp2_with fail
      obtain ⟨wo, hwo⟩ : ∃ wo : World, wo = wr := ⟨wr, rfl⟩
      subst hwo
      go_loopw [27] (fun y wr => ∃ i : Nat, i ≤ nv ∧ y = .int .i64 i ∧ StrStep D (j + counts (vs.take i)) w wr ∧ Below lo w wr) (fun y _ => nv - (intOf y).toNat)
      case atStart => exact ⟨0, Nat.zero_le _, rfl, by simpa [counts] using hs, hb⟩
      case round =>
        clear hs hb d6 d7
        obtain ⟨i, hi, rfl, hs, hb⟩ := hrel
        have d7 := hs.keep h7 (fun t e => by injection e)
        have hct := counts_take_le vs i
        by_cases hlt : i < nv
        · have hlt' : (i : Int) < (nv : Int) := by omega
          have hiv : i < vs.length := by rw [HNV.out]; exact hlt
          have hcs := counts_step hiv
          have hct2 := counts_take_le vs (i + 1)
          rcases HX.out with h0 | ⟨gv, ov, rfl, hDv, hxv⟩
          · exact absurd hiv (by rw [h0]; simp)
          have hkid := hxv.at (List.getElem?_eq_getElem hiv)
          have IH := ih' _ (List.getElem_mem hiv)
          clear hxv
          generalize vs[i] = x at *
          have hcp := count_pos x
          have hkr := hs.shp x hkid
          have I1 := IH wr gv (ov + i * 8) (m + (j + counts (vs.take i))) hkr (by omega)
          have wk : IntKind.i64.wrap ((i : Int) + 1) = (i : Int) + 1 := by simp only [IntKind.wrap, IntKind.signed, IntKind.bits]; simp; omega
          have HCS := Lib.hid hcs
          clear hcs
          go_wp2_with fail
          refine I1.mono ?_
          rintro e w2 ⟨rfl, hs2, hb2⟩
          have hs3 := hs.trans hs2
          have hk3 := hs3.shp x hkid
          have hb3 := hb.trans (hb2)
          obtain ⟨k', b', n', s', ks', vs'⟩ := x
          rw [ShpAt] at hk3
          obtain ⟨⟨t, t1, t2, t3⟩, -, -⟩ := hk3
          have e7 := hs3.keep h7 (fun t e => by injection e)
          have hsz : ¬ (9223372036854775807 < t.size + 1) := by have := HCS.out; omega
          clear hkid hkr d7
          go_wp2_with fail
          go_roundw
          case rel => exact ⟨i + 1, by omega, by go_num, (hs3.trans (StrStep.one hDv t1 (by rw [ByteArray.size_append]; exact Nat.le_refl _))).mono (by rw [HCS.out]; omega), hb3.setCell (p := ⟨gv, ov + i * 8 + 5, none⟩) (hD _ hDv) _⟩
          case measure => simp [intOf]; omega
        · obtain rfl : i = nv := by omega
          rw [← HNV.out, List.take_length] at hs
          go_wp2_with fail
          go_end0
          exact ⟨rfl, hs, hb⟩
end Go.Proofs.YtjekannajnkejaaDoor.Tre
namespace Go.Proofs.YtjekannajnkejaaDoor.Tre
open Go.RowKit Kit Txt
open Num (Dec zero)

/-- The block is one of cells that may be written. -/
def Blk (w : World) (g : Nat) : Prop := ∃ (arr : Array Value) (t : TypeId), w.heap[g]? = some (.cells arr t (0, 0))
theorem Blk.free {w : World} {g : Nat} (h : Blk w g) (i : Nat) : w.frozen? ⟨g, i, none⟩ = false := by
  obtain ⟨arr, t, h⟩ := h
  exact free_of h i
theorem Blk.lt {w : World} {g : Nat} (h : Blk w g) : g < w.heap.size := by
  obtain ⟨arr, t, h⟩ := h
  exact lt_of_heap h
theorem Blk.keep {w w' : World} {g : Nat} (h : Blk w g) (k : w'.heap[g]? = w.heap[g]?) : Blk w' g := by
  obtain ⟨arr, t, h⟩ := h
  exact ⟨arr, t, k.trans h⟩
/-- The keys, in an interval. -/
def SepK (w : World) (lo hi : Nat) (u : Value) (ls : List (List UInt8)) : Prop :=
  ∃ a c, u = .slice a ls.length c ∧ ls.length ≤ c ∧ c ≤ 9223372036854775807 ∧ (ls = [] ∨ ∃ g, a = some ⟨g, 0, none⟩ ∧ lo ≤ g ∧ g < hi ∧ Blk w g ∧ ∀ (i : Nat) (l : List UInt8), ls[i]? = some l → w.cell? ⟨g, i, none⟩ = some (.string (txt l)))
mutual
/-- A value, in an interval: keys, then the kids' row, then kid by kid. -/
def Sep (w : World) (lo hi : Nat) (cs : List Value) : Val → Prop
  | ⟨k, i, n, s, ks, vs⟩ => ∃ uk a c p, cs = cellsV k i n s uk (.slice a vs.length c) ∧ lo ≤ p ∧ p ≤ hi ∧ SepK w lo p uk ks ∧ vs.length ≤ c ∧ c ≤ 9223372036854775807 ∧ (vs = [] ∨ ∃ g, a = some ⟨g, 0, none⟩ ∧ p ≤ g ∧ g < hi ∧ Blk w g ∧ Seps w (g + 1) hi g 0 vs)
def Seps (w : World) (lo hi g off : Nat) : List Val → Prop
  | [] => lo ≤ hi
  | v :: r => ∃ m, lo ≤ m ∧ (∃ cs, At8 w g off cs ∧ Sep w lo m cs v) ∧ Seps w m hi g (off + 8) r
end
theorem Seps.le {w : World} {g : Nat} : ∀ {vs : List Val} {lo hi off : Nat}, Seps w lo hi g off vs → lo ≤ hi
  | [], _, _, _, h => by rwa [Seps] at h
  | v :: r, lo, hi, off, h => by
    rw [Seps] at h
    obtain ⟨m, h1, _, h2⟩ := h
    exact Nat.le_trans h1 (Seps.le h2)
theorem SepK.keep {w w' : World} {lo hi : Nat} {u : Value} {ls : List (List UInt8)} (h : SepK w lo hi u ls) (hk : ∀ g, lo ≤ g → g < hi → w'.heap[g]? = w.heap[g]?) : SepK w' lo hi u ls := by
  obtain ⟨a, c, hu, h1, h2, h3⟩ := h
  refine ⟨a, c, hu, h1, h2, h3.imp id ?_⟩
  rintro ⟨g, ha, hl, hh, hb, hx⟩
  exact ⟨g, ha, hl, hh, hb.keep (hk g hl hh), fun i l hi => cell_keep (hx i l hi) (hk g hl hh)⟩
theorem SepK.mono {w : World} {lo hi lo' hi' : Nat} {u : Value} {ls : List (List UInt8)} (h : SepK w lo hi u ls) (h1 : lo' ≤ lo) (h2 : hi ≤ hi') : SepK w lo' hi' u ls := by
  obtain ⟨a, c, hu, e1, e2, h3⟩ := h
  refine ⟨a, c, hu, e1, e2, h3.imp id ?_⟩
  rintro ⟨g, ha, hl, hh, hb, hx⟩
  exact ⟨g, ha, Nat.le_trans h1 hl, Nat.lt_of_lt_of_le hh h2, hb, hx⟩
mutual
theorem Sep.keep {w w' : World} : ∀ (v : Val) {lo hi : Nat} {cs : List Value}, (∀ g, lo ≤ g → g < hi → w'.heap[g]? = w.heap[g]?) → Sep w lo hi cs v → Sep w' lo hi cs v
  | ⟨k, i, n, s, ks, vs⟩, lo, hi, cs, hk, h => by
    rw [Sep] at h ⊢
    obtain ⟨uk, a, c, p, hcs, h1, h2, hK, hc, hm, hv⟩ := h
    refine ⟨uk, a, c, p, hcs, h1, h2, hK.keep fun g hl hh => hk g hl (Nat.lt_of_lt_of_le hh h2), hc, hm, hv.imp id ?_⟩
    rintro ⟨g, ha, hl, hh, hb, hx⟩
    have e := hk g (Nat.le_trans h1 hl) hh
    exact ⟨g, ha, hl, hh, hb.keep e, Seps.keep vs (fun q h1' h2' => hk q (by omega) h2') (fun i _ _ => by unfold World.cell?; rw [e]) hx⟩
theorem Seps.keep {w w' : World} : ∀ (vs : List Val) {lo hi g off : Nat}, (∀ q, lo ≤ q → q < hi → w'.heap[q]? = w.heap[q]?) → (∀ i, off ≤ i → i < off + 8 * vs.length → w'.cell? ⟨g, i, none⟩ = w.cell? ⟨g, i, none⟩) → Seps w lo hi g off vs → Seps w' lo hi g off vs
  | [], _, _, _, _, _, _, h => by
    rw [Seps] at h ⊢
    exact h
  | v :: r, lo, hi, g, off, hk, hc, h => by
    rw [Seps] at h ⊢
    obtain ⟨m, h1, ⟨cs, h8, hv⟩, hr⟩ := h
    have hle := Seps.le hr
    refine ⟨m, h1, ⟨cs, ⟨h8.1, fun j hj => (hc (off + j) (by omega) (by simp; omega)).trans (h8.2 j hj)⟩, Sep.keep v (fun q a b => hk q a (by omega)) hv⟩, Seps.keep r (fun q a b => hk q (by omega) b) (fun i a b => hc i (by omega) (by simp; omega)) hr⟩
end
theorem Seps.mono {w : World} {g : Nat} : ∀ {vs : List Val} {lo hi hi' off : Nat}, Seps w lo hi g off vs → hi ≤ hi' → Seps w lo hi' g off vs
  | [], lo, hi, hi', off, h, hh => by
    rw [Seps] at h ⊢
    omega
  | v :: r, lo, hi, hi', off, h, hh => by
    rw [Seps] at h ⊢
    obtain ⟨m, h1, h2, hr⟩ := h
    exact ⟨m, h1, h2, Seps.mono hr hh⟩
theorem Sep.mono {w : World} {lo hi hi' : Nat} {cs : List Value} {v : Val} (h : Sep w lo hi cs v) (hh : hi ≤ hi') : Sep w lo hi' cs v := by
  obtain ⟨k, i, n, s, ks, vs⟩ := v
  rw [Sep] at h ⊢
  obtain ⟨uk, a, c, p, hcs, h1, h2, hK, hc, hm, hv⟩ := h
  refine ⟨uk, a, c, p, hcs, h1, by omega, hK, hc, hm, hv.imp id ?_⟩
  rintro ⟨g, ha, hl, hg, hb, hx⟩
  exact ⟨g, ha, hl, by omega, hb, hx.mono hh⟩
theorem Sep.lower {w : World} {lo lo' hi : Nat} {cs : List Value} {v : Val} (h : Sep w lo hi cs v) (hh : lo' ≤ lo) : Sep w lo' hi cs v := by
  obtain ⟨k, i, n, s, ks, vs⟩ := v
  rw [Sep] at h ⊢
  obtain ⟨uk, a, c, p, hcs, h1, h2, hK, hc, hm, hv⟩ := h
  exact ⟨uk, a, c, p, hcs, by omega, h2, hK.mono hh (Nat.le_refl _), hc, hm, hv⟩
theorem Seps.snoc {w : World} {g : Nat} {v : Val} {cs : List Value} : ∀ {vs : List Val} {lo m hi off : Nat}, Seps w lo m g off vs → m ≤ hi → At8 w g (off + 8 * vs.length) cs → Sep w m hi cs v → Seps w lo hi g off (vs ++ [v])
  | [], lo, m, hi, off, h, hm, h8, hv => by
    rw [Seps] at h
    rw [List.nil_append, Seps]
    refine ⟨hi, by omega, ⟨cs, by simpa using h8, hv.lower h⟩, by rw [Seps]; omega⟩
  | x :: r, lo, m, hi, off, h, hm, h8, hv => by
    rw [Seps] at h
    obtain ⟨m', h1, h2, hr⟩ := h
    rw [List.cons_append, Seps]
    exact ⟨m', h1, h2, Seps.snoc hr hm (by rw [show off + 8 + 8 * r.length = off + 8 * (x :: r).length by simp; omega]; exact h8) hv⟩
/-- One kid. -/
theorem Seps.at {w : World} {g : Nat} : ∀ {vs : List Val} {lo hi off : Nat}, Seps w lo hi g off vs → ∀ {i : Nat} {v : Val}, vs[i]? = some v → ∃ l h cs, lo ≤ l ∧ l ≤ h ∧ h ≤ hi ∧ At8 w g (off + i * 8) cs ∧ Sep w l h cs v
  | [], _, _, _, _, _, _, hi => by simp at hi
  | x :: r, lo, hi', off, h, 0, v, hi => by
    rw [Seps] at h
    obtain ⟨m, h1, ⟨cs, h8, hv⟩, hr⟩ := h
    simp at hi
    subst hi
    exact ⟨lo, m, cs, Nat.le_refl _, h1, Seps.le hr, by simpa using h8, hv⟩
  | x :: r, lo, hi', off, h, i + 1, v, hi => by
    rw [Seps] at h
    obtain ⟨m, h1, _, hr⟩ := h
    obtain ⟨l, h', cs, e1, e2, e3, e4, e5⟩ := Seps.at hr (i := i) (v := v) (by simpa using hi)
    exact ⟨l, h', cs, by omega, e2, e3, by rwa [show off + (i + 1) * 8 = off + 8 + i * 8 by omega], e5⟩
mutual
theorem Sep.holdP {w : World} : ∀ (v : Val) {lo hi : Nat} {cs : List Value}, Sep w lo hi cs v → HoldP (fun g => lo ≤ g ∧ g < hi) w cs v
  | ⟨k, i, n, s, ks, vs⟩, lo, hi, cs, h => by
    rw [Sep] at h
    rw [HoldP]
    obtain ⟨uk, a, c, p, hcs, h1, h2, ⟨ak, ck, huk, hck, hmk, hK⟩, hc, hm, hv⟩ := h
    refine ⟨uk, a, c, hcs, ⟨ak, ck, huk, hck, hmk, hK.imp id ?_⟩, hc, hm, hv.imp id ?_⟩
    · rintro ⟨g, ha, hl, hh, hb, hx⟩
      exact ⟨g, 0, ha, ⟨hl, by omega⟩, hb.lt, fun i l hi => by rw [Nat.zero_add]; exact hx i l hi⟩
    · rintro ⟨g, ha, hl, hh, hb, hx⟩
      exact ⟨g, 0, ha, ⟨by omega, hh⟩, hb.lt, HoldsP.mono (fun q hq _ => ⟨by omega, hq.2⟩) vs (Seps.holdsP vs hx)⟩
theorem Seps.holdsP {w : World} : ∀ (vs : List Val) {lo hi g off : Nat}, Seps w lo hi g off vs → HoldsP (fun q => lo ≤ q ∧ q < hi) w g off vs
  | [], _, _, _, _, _ => by rw [HoldsP]; trivial
  | v :: r, lo, hi, g, off, h => by
    rw [Seps] at h
    rw [HoldsP]
    obtain ⟨m, h1, ⟨cs, h8, hv⟩, hr⟩ := h
    have hle := Seps.le hr
    exact ⟨⟨cs, h8, HoldP.mono (fun q hq _ => ⟨hq.1, by omega⟩) v (Sep.holdP v hv)⟩, HoldsP.mono (fun q hq _ => ⟨by omega, hq.2⟩) r (Seps.holdsP r hr)⟩
end
theorem SepK.shp {w : World} {lo hi : Nat} {u : Value} {ls : List (List UInt8)} (h : SepK w lo hi u ls) (hs : ∀ x ∈ ls, x.length ≤ 2000) : ShpKs (fun g => lo ≤ g ∧ g < hi) 2000 w u ls.length := by
  obtain ⟨a, c, hu, h1, h2, h3⟩ := h
  refine ⟨a, c, hu, h1, h2, ?_⟩
  rcases h3 with rfl | ⟨g, ha, hl, hh, hb, hx⟩
  · exact .inl rfl
  · refine .inr ⟨g, 0, ha, ⟨hl, hh⟩, fun i hi => ⟨txt ls[i], ?_, by rw [txt_size]; exact hs _ (List.getElem_mem hi), hb.free _⟩⟩
    rw [Nat.zero_add]
    exact hx i _ (List.getElem?_eq_getElem hi)
theorem ShpKs.mono {D E : Nat → Prop} {m : Nat} {w : World} {u : Value} {n : Nat} (h : ShpKs D m w u n) (hDE : ∀ g, D g → E g) : ShpKs E m w u n := by
  obtain ⟨a, c, hu, h1, h2, h3⟩ := h
  refine ⟨a, c, hu, h1, h2, h3.imp id ?_⟩
  rintro ⟨g, off, ha, hD, hx⟩
  exact ⟨g, off, ha, hDE g hD, hx⟩
mutual
theorem ShpAt.mono {D E : Nat → Prop} {m : Nat} {w : World} (hDE : ∀ g, D g → E g) : ∀ (v : Val) {g off : Nat}, ShpAt D m w g off v → ShpAt E m w g off v
  | ⟨_, _, _, _, ks, vs⟩, g, off, h => by
    rw [ShpAt] at h ⊢
    obtain ⟨h5, ⟨u, h6, hks⟩, a, c, h7, hl1, hl2, hx⟩ := h
    refine ⟨h5, ⟨u, h6, hks.mono hDE⟩, a, c, h7, hl1, hl2, hx.imp id ?_⟩
    rintro ⟨g', off', ha, hD, hv⟩
    exact ⟨g', off', ha, hDE g' hD, ShpsAt.mono hDE vs hv⟩
theorem ShpsAt.mono {D E : Nat → Prop} {m : Nat} {w : World} (hDE : ∀ g, D g → E g) : ∀ (vs : List Val) {g off : Nat}, ShpsAt D m w g off vs → ShpsAt E m w g off vs
  | [], _, _, _ => by rw [ShpsAt]; trivial
  | v :: r, g, off, h => by
    rw [ShpsAt] at h ⊢
    exact ⟨ShpAt.mono hDE v h.1, ShpsAt.mono hDE r h.2⟩
end
mutual
theorem Sep.shpAt {w : World} : ∀ (v : Val) {d lo hi g off : Nat} {cs : List Value}, Fine d v → Sep w lo hi cs v → At8 w g off cs → Blk w g → ShpAt (fun q => lo ≤ q ∧ q < hi) 2000 w g off v
  | ⟨k, i, n, s, ks, vs⟩, d, lo, hi, g, off, cs, hf, h, h8, hb => by
    rw [Sep] at h
    rw [Fine] at hf
    rw [ShpAt]
    obtain ⟨uk, a, c, p, rfl, h1, h2, hK, hc, hm, hv⟩ := h
    obtain ⟨x0, x1, x2, x3, x4, x5, x6, x7⟩ := h8.cells
    refine ⟨⟨txt s, x5, by rw [txt_size]; exact hf.2.1, hb.free _⟩, ⟨uk, x6, (hK.shp hf.2.2.2.1).mono fun q hq => ⟨hq.1, by omega⟩⟩, a, c, x7, hc, hm, hv.imp id ?_⟩
    rintro ⟨g', ha, hl, hh, hb', hx⟩
    exact ⟨g', 0, ha, ⟨by omega, hh⟩, ShpsAt.mono (fun q hq => ⟨by omega, hq.2⟩) vs (Seps.shpsAt vs hf.2.2.2.2 hx hb')⟩
theorem Seps.shpsAt {w : World} : ∀ (vs : List Val) {d lo hi g off : Nat}, Fines d vs → Seps w lo hi g off vs → Blk w g → ShpsAt (fun q => lo ≤ q ∧ q < hi) 2000 w g off vs
  | [], _, _, _, _, _, _, _, _ => by rw [ShpsAt]; trivial
  | v :: r, d, lo, hi, g, off, hf, h, hb => by
    rw [Seps] at h
    rw [Fines] at hf
    rw [ShpsAt]
    obtain ⟨m, h1, ⟨cs, h8, hv⟩, hr⟩ := h
    have hle := Seps.le hr
    exact ⟨ShpAt.mono (fun q hq => ⟨hq.1, by omega⟩) v (Sep.shpAt v hf.1 hv h8 hb), ShpsAt.mono (fun q hq => ⟨by omega, hq.2⟩) r (Seps.shpsAt r hf.2 hr hb)⟩
end
theorem Sep.shpU {w : World} {lo hi d : Nat} {cs : List Value} {v : Val} (hf : Fine d v) (h : Sep w lo hi cs v) : ShpU (fun q => lo ≤ q ∧ q < hi) 2000 w (.agg cs.toArray) v := by
  obtain ⟨k, i, n, s, ks, vs⟩ := v
  rw [Sep] at h
  rw [Fine] at hf
  obtain ⟨uk, a, c, p, rfl, h1, h2, hK, hc, hm, hv⟩ := h
  refine ⟨_, _, _, _, _, txt s, uk, a, c, rfl, by rw [txt_size]; exact hf.2.1, (hK.shp hf.2.2.2.1).mono fun q hq => ⟨hq.1, by omega⟩, hc, hm, hv.imp id ?_⟩
  rintro ⟨g', ha, hl, hh, hb', hx⟩
  exact ⟨g', 0, ha, ⟨by omega, hh⟩, ShpsAt.mono (fun q hq => ⟨by omega, hq.2⟩) vs (Seps.shpsAt vs hf.2.2.2.2 hx hb')⟩

/-- A whole value is stored at a place. -/
def put8 (W : World) (g o : Nat) (a b c d e f x y : Value) : World :=
  (((((((W.setCell ⟨g, o, none⟩ a).setCell ⟨g, o + 1, none⟩ b).setCell ⟨g, o + 2, none⟩ c).setCell ⟨g, o + 3, none⟩ d).setCell ⟨g, o + 4, none⟩ e).setCell ⟨g, o + 5, none⟩ f).setCell ⟨g, o + 6, none⟩ x).setCell ⟨g, o + 7, none⟩ y
theorem put8_block {W : World} {g k o : Nat} (hk : k ≠ g) (a b c d e f x y : Value) : (put8 W g o a b c d e f x y).heap[k]? = W.heap[k]? := by
  unfold put8
  simp only [setc_other _ hk]
theorem put8_size (W : World) (g o : Nat) (a b c d e f x y : Value) : (put8 W g o a b c d e f x y).heap.size = W.heap.size := by
  simp [put8, World.setCell, Array.size_modify]
theorem put8_own {W : World} {g o : Nat} {arr : Array Value} {t : TypeId} {fr : Nat × Nat} (h : W.heap[g]? = some (.cells arr t fr)) (a b c d e f x y : Value) : ∃ arr' : Array Value, arr'.size = arr.size ∧ (put8 W g o a b c d e f x y).heap[g]? = some (.cells arr' t fr) := by
  have := (set_of (set_of (set_of (set_of (set_of (set_of (set_of (set_of h o a) (o + 1) b) (o + 2) c) (o + 3) d) (o + 4) e) (o + 5) f) (o + 6) x) (o + 7) y)
  exact ⟨_, by simp, this⟩
theorem put8_cell {W : World} {g o i : Nat} (hi : i < o ∨ o + 8 ≤ i) (a b c d e f x y : Value) : (put8 W g o a b c d e f x y).cell? ⟨g, i, none⟩ = W.cell? ⟨g, i, none⟩ := by
  unfold put8
  have ne : ∀ k, k < 8 → (⟨g, o + k, none⟩ : Addr) ≠ ⟨g, i, none⟩ := fun k hk e => by
    injection e with _ e _
    omega
  rw [World.cell?_setCell_other _ _ _ _ (ne 7 (by omega)), World.cell?_setCell_other _ _ _ _ (ne 6 (by omega)), World.cell?_setCell_other _ _ _ _ (ne 5 (by omega)), World.cell?_setCell_other _ _ _ _ (ne 4 (by omega)), World.cell?_setCell_other _ _ _ _ (ne 3 (by omega)), World.cell?_setCell_other _ _ _ _ (ne 2 (by omega)), World.cell?_setCell_other _ _ _ _ (ne 1 (by omega)), World.cell?_setCell_other _ _ _ _ (show (⟨g, o, none⟩ : Addr) ≠ ⟨g, i, none⟩ from fun e => by injection e with _ e _; omega)]
theorem put8_at {W : World} {g o : Nat} {arr : Array Value} {t : TypeId} {fr : Nat × Nat} (h : W.heap[g]? = some (.cells arr t fr)) (ho : o + 8 ≤ arr.size) (a b c d e f x y : Value) : At8 (put8 W g o a b c d e f x y) g o [a, b, c, d, e, f, x, y] := by
  have h2 := (set_of (set_of (set_of (set_of (set_of (set_of (set_of (set_of h o a) (o + 1) b) (o + 2) c) (o + 3) d) (o + 4) e) (o + 5) f) (o + 6) x) (o + 7) y)
  refine ⟨rfl, fun j hj => ?_⟩
  have h3 := cell_of h2 (o + j)
  refine h3.trans ?_
  rcases j with _ | _ | _ | _ | _ | _ | _ | _ | j
  all_goals first | omega | skip
  all_goals
    simp only [Array.getElem?_setIfInBounds]
    simp
    omega
theorem put8_below {N : Nat} {w W : World} {g : Nat} (h : Below N w W) (hg : N ≤ g) (o : Nat) (a b c d e f x y : Value) : Below N w (put8 W g o a b c d e f x y) :=
  (((((((h.setCell (p := ⟨g, o, none⟩) hg a).setCell (p := ⟨g, o + 1, none⟩) hg b).setCell (p := ⟨g, o + 2, none⟩) hg c).setCell (p := ⟨g, o + 3, none⟩) hg d).setCell (p := ⟨g, o + 4, none⟩) hg e).setCell (p := ⟨g, o + 5, none⟩) hg f).setCell (p := ⟨g, o + 6, none⟩) hg x).setCell (p := ⟨g, o + 7, none⟩) hg y
/-- The eight cells of a block from a place on. -/
theorem block8 {W : World} {g o : Nat} {arr : Array Value} {t : TypeId} {fr : Nat × Nat} (h : W.heap[g]? = some (.cells arr t fr)) (ho : o + 8 ≤ arr.size) : ∃ z0 z1 z2 z3 z4 z5 z6 z7 : Value, W.cell? ⟨g, o, none⟩ = some z0 ∧ W.cell? ⟨g, o + 1, none⟩ = some z1 ∧ W.cell? ⟨g, o + 2, none⟩ = some z2 ∧ W.cell? ⟨g, o + 3, none⟩ = some z3 ∧ W.cell? ⟨g, o + 4, none⟩ = some z4 ∧ W.cell? ⟨g, o + 5, none⟩ = some z5 ∧ W.cell? ⟨g, o + 6, none⟩ = some z6 ∧ W.cell? ⟨g, o + 7, none⟩ = some z7 := by
  refine ⟨arr[o], arr[o + 1], arr[o + 2], arr[o + 3], arr[o + 4], arr[o + 5], arr[o + 6], arr[o + 7], ?_⟩
  refine ⟨?_, ?_, ?_, ?_, ?_, ?_, ?_, ?_⟩
  all_goals rw [cell_of h]; exact Array.getElem?_eq_getElem _
end Go.Proofs.YtjekannajnkejaaDoor.Tre
