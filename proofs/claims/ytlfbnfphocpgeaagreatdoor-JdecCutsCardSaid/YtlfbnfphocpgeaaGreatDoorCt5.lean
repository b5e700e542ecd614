/- A part of what cuts_holds leans on (its texts, put together). Nothing is claimed here. -/
import Derived.Deep.RegionLaw
import Derived.Test.YtlfbnfphocpgeaaGreatDoorShelf
import Derived.Lib.MinMax
import Derived.Laws.EntriesVeiled
import Derived.Test.YtlfbnfphocpgeaaGreatDoorCt4
namespace Go.Proofs.YtlfbnfphocpgeaaGreatDoor.Jdec
open Go.RowKit Kit Txt
open Utf (nb)
open Tre (Val HoldF HoldP zeroV RowC put8 none')
/-- The table of kinds. -/
def kcs : Array Value := #[.string ⟨#[123]⟩, .func (.func 40) #[] #[], .string ⟨#[91]⟩, .func (.func 41) #[] #[], .string ⟨#[34]⟩, .func (.func 42) #[] #[], .string ⟨#[45, 48, 49, 50, 51, 52, 53, 54, 55, 56, 57]⟩, .func (.func 43) #[] #[], .string ⟨#[110]⟩, .func (.func 44) #[] #[], .string ⟨#[116]⟩, .func (.func 45) #[] #[], .string ⟨#[102]⟩, .func (.func 46) #[] #[]]
/-- What the reader's methods want of the world, but for the reader. -/
structure Env (G : Nat) (w : World) : Prop where
  utf : Utf.Laid w
  tab : Num.Tab w
  kin : w.heap[G]? = some (.cells kcs 82 (0, 0))
theorem Env.off {G R : Nat} {X : Nat → Prop} {s : List UInt8} {q : Nat} {o : Int} {u : Value} {a b : World} (h : Env G a) (hr : ∃ w : World, Env G w ∧ Rdr R s q o u w) (k : Off X a b) (hX : ∀ i, X i → i < a.heap.size → i = R ∨ (∃ w : World, Env G w ∧ w.heap.size ≤ i)) : Env G b := by
  have key : ∀ i, (∀ w, Env G w → i < w.heap.size) → (∀ w, Env G w → Rdr R s q o u w → i ≠ R) → i < a.heap.size → b.heap[i]? = a.heap[i]? := fun i h1 h2 h3 => k.block i h3 fun hx => by
    rcases hX i hx h3 with e | ⟨w, hw, e⟩
    · obtain ⟨w, hw, hwr⟩ := hr
      exact h2 w hw hwr e
    · have := h1 w hw
      omega
  obtain ⟨t1, f1, e1⟩ := h.utf
  obtain ⟨t2, f2, e2⟩ := h.tab
  refine ⟨⟨t1, f1, (key _ (fun w hw => ?_) (fun w hw hr e => ?_) (lt_of_heap e1)).trans e1⟩, ⟨t2, f2, (key _ (fun w hw => ?_) (fun w hw hr e => ?_) (lt_of_heap e2)).trans e2⟩, (key _ (fun w hw => ?_) (fun w hw hr e => ?_) (lt_of_heap h.kin)).trans h.kin⟩
  · exact Utf.Laid.lt hw.utf
  · obtain ⟨t, f, e'⟩ := hw.utf
    unfold Rdr at hr
    rw [e, hr] at e'
    injection e' with e'
    injection e' with e' _ _
    exact absurd (show Utf.kcells.size = 4 from (congrArg Array.size e').symm.trans rfl) (by decide)
  · obtain ⟨t, f, e'⟩ := hw.tab
    exact lt_of_heap e'
  · obtain ⟨t, f, e'⟩ := hw.tab
    unfold Rdr at hr
    rw [e, hr] at e'
    injection e' with e'
    injection e' with e' _ _
    exact absurd (show Num.tcells.size = 4 from (congrArg Array.size e').symm.trans rfl) (by decide)
  · exact lt_of_heap hw.kin
  · have e' := hw.kin
    unfold Rdr at hr
    rw [e, hr] at e'
    injection e' with e'
    injection e' with e' _ _
    exact absurd (show kcs.size = 4 from (congrArg Array.size e').symm.trans rfl) (by decide)
theorem Env.below {G : Nat} {a b : World} (h : Env G a) (k : Below a.heap.size a b) : Env G b := by
  obtain ⟨t1, f1, e1⟩ := h.utf
  obtain ⟨t2, f2, e2⟩ := h.tab
  exact ⟨⟨t1, f1, (k.block _ (lt_of_heap e1)).trans e1⟩, ⟨t2, f2, (k.block _ (lt_of_heap e2)).trans e2⟩, (k.block _ (lt_of_heap h.kin)).trans h.kin⟩
/-- What value tells, at so many levels more. -/
def ValAt (G R : Nat) (s : List UInt8) (u : Value) (K : Nat) (o : Int) : Prop := ∀ (w : World) (q : Nat), Rdr R s q o u w → Env G w → q ≤ s.length → Calls Tryz.prog 48 #[rp R] w (Told R s u o w (value K (s.drop q)))
/-- The list so far. -/
def StL (B R : Nat) (keys : List (List UInt8)) (kids : List Val) (w : World) : Prop :=
  keys = [] ∧ w.heap[B]? = some (.cells #[rp R] 80 (0, 0)) ∧ w.heap[B + 1]? = some (.cells #[.int .i64 0, .bool false, .bool false, .string ⟨#[]⟩, .int .i64 0, .string ⟨#[]⟩, .slice none 0 0, .slice none 0 0] 29 (0, 0)) ∧ B + 3 ≤ w.heap.size ∧
  ∃ (uu : Value) (cs : List (List Value)), w.heap[B + 2]? = some (.cells #[.int .i64 5, .bool false, .bool false, .string ⟨#[]⟩, .int .i64 0, .string ⟨#[]⟩, .slice none 0 0, uu] 29 (0, 0)) ∧ RowC none (B + 3) w uu kids cs
theorem StL.keep {B R : Nat} {keys : List (List UInt8)} {kids : List Val} {a b : World} (hRB : R < B) (h : StL B R keys kids a) (k : a.grownBy b (some R)) : StL B R keys kids b := by
  obtain ⟨h1, h2, h3, h4, uu, cs, h5, h6⟩ := h
  exact ⟨h1, kept_of h2 k (by omega), kept_of h3 k (by omega), Nat.le_trans h4 k.size, uu, cs, kept_of h5 k (by omega), h6.other k (by omega)⟩
/-- What is told of a value holds one, of an error too. -/
theorem Told.holds {R : Nat} {s : List UInt8} {u : Value} {o : Int} {w : World} {g : Got Val} {y : Value} {ek : Int} {w' : World} (h : Told R s u o w g (.returned (.tuple #[y, .int .i64 ek])) w') : ∃ z, HoldF w.heap.size w' y z ∧
    ((∃ r, g = .ok z r ∧ ek = 0 ∧ Rdr R s (s.length - r.length) o u w') ∨ (∃ r k, g = .no r k ∧ ek = (k : Int) ∧ ∃ o', Rdr R s (s.length - r.length) o' u w')) := by
  cases g with
  | ok v r =>
    obtain ⟨-, y', e, hy, hr⟩ := h
    injection e with e
    injection e with e
    have e1 : y = y' := by injection e with e; injection e
    have e2 : ek = 0 := by injection e with e; injection e with _ e; injection e with e _; injection e
    subst e1; subst e2
    exact ⟨v, hy, .inl ⟨r, rfl, rfl, hr⟩⟩
  | no r k =>
    obtain ⟨-, e, o', hr⟩ := h
    injection e with e
    injection e with e
    have e1 : y = zeroV := by injection e with e; injection e
    have e2 : ek = (k : Int) := by injection e with e; injection e with _ e; injection e with e _; injection e
    subst e1; subst e2
    exact ⟨none', flat_hold 0 false Num.zero [] _ _, .inr ⟨r, k, rfl, rfl, o', hr⟩⟩
theorem named_list (keys : List (List UInt8)) (l : List UInt8) : named false keys l = .ok keys l := rfl
theorem new8 (w : World) (c : List Value) (_hc : c.length = 8) : ∀ j, j < 8 → (w.alloc (.cells c.toArray 29)).cell? ⟨w.heap.size, j, none⟩ = c[j]? := fun j _ => by
  rw [cell_of (World.alloc_heap_new w (.cells c.toArray 29))]
  simp
def zerosL : List Value := [.int .i64 0, .bool false, .bool false, .string ⟨#[]⟩, .int .i64 0, .string ⟨#[]⟩, .slice none 0 0, .slice none 0 0]
theorem zeros_hold (X : Nat → Prop) (w : World) : HoldP X w zerosL none' := by
  show HoldP X w zerosL ⟨0, false, Num.zero, [], [], []⟩
  rw [Tre.HoldP]
  exact ⟨_, none, 0, rfl, ⟨none, 0, rfl, Nat.le_refl _, by omega, .inl rfl⟩, Nat.le_refl _, by omega, .inl rfl⟩
theorem put8_grown (W : World) (g o : Nat) (a b c d e f x y : Value) : W.grownBy (put8 W g o a b c d e f x y) (some g) := by
  unfold put8
  exact grown_trans (grown_trans (grown_trans (grown_trans (grown_trans (grown_trans (grown_trans (grown_cell _ g o _) (grown_cell _ g (o + 1) _)) (grown_cell _ g (o + 2) _)) (grown_cell _ g (o + 3) _)) (grown_cell _ g (o + 4) _)) (grown_cell _ g (o + 5) _)) (grown_cell _ g (o + 6) _)) (grown_cell _ g (o + 7) _)
/-- What is left: the reader is as it was, of what was there ahead nothing else has turned. -/
def Fin (B R : Nat) (a : World) (P : World → Prop) (b : World) : Prop := Off (fun i => i = R ∨ B + 2 ≤ i) a b ∧ (∀ o : Obj, a.heap[R]? = some o → b.heap[R]? = some o) ∧ P b
/-- What is left behind the append of a part, the value stored behind the row's head or ahead of it. -/
theorem list_fin {B R g4 n cap4 : Nat} {w4 : World} {kids : List Val} {cs : List (List Value)} {z : Val} {uu a b c d e f x y : Value} (hR4 : RowC none (B + 3) w4 (.slice (some ⟨g4, 0, none⟩) (n + 1) cap4) (kids ++ [none']) (cs ++ [zerosL])) (hkn : kids.length = n)
    (h0 : w4.heap[B]? = some (.cells #[rp R] 80 (0, 0))) (h1 : w4.heap[B + 1]? = some (.cells #[.int .i64 0, .bool false, .bool false, .string ⟨#[]⟩, .int .i64 0, .string ⟨#[]⟩, .slice none 0 0, .slice none 0 0] 29 (0, 0)))
    (h2 : w4.heap[B + 2]? = some (.cells #[.int .i64 5, .bool false, .bool false, .string ⟨#[]⟩, .int .i64 0, .string ⟨#[]⟩, .slice none 0 0, uu] 29 (0, 0))) (hz : B + 3 ≤ w4.heap.size)
    (hP : HoldP (fun q => B + 3 ≤ q ∧ q ≠ g4) w4 [a, b, c, d, e, f, x, y] z) (hRB : R < B) :
    Fin B R w4 (StL B R [] (kids ++ [z])) ((put8 w4 g4 (n * 8) a b c d e f x y).setCell ⟨B + 2, 7, none⟩ (.slice (some ⟨g4, 0, none⟩) (n + 1) cap4)) ∧
    Fin B R w4 (StL B R [] (kids ++ [z])) (put8 (w4.setCell ⟨B + 2, 7, none⟩ (.slice (some ⟨g4, 0, none⟩) (n + 1) cap4)) g4 (n * 8) a b c d e f x y) := by
  have hg4 := hR4.block.1
  have hP' : ∀ w', HoldP (fun q => B + 3 ≤ q ∧ q ≠ g4) w' [a, b, c, d, e, f, x, y] z → HoldP (fun q => B + 3 ≤ q ∧ (Value.slice (some ⟨g4, 0, none⟩) (n + 1) cap4).ownBlock ≠ some q ∧ none ≠ some q) w' [a, b, c, d, e, f, x, y] z := fun w' h =>
    HoldP.mono (fun q hq _ => ⟨hq.1, fun e => hq.2 (by simpa [Value.ownBlock] using e.symm), by simp⟩) z h
  constructor
  · have k1 := put8_grown w4 g4 (n * 8) a b c d e f x y
    have k2 := grown_cell (put8 w4 g4 (n * 8) a b c d e f x y) (B + 2) 7 (.slice (some ⟨g4, 0, none⟩) (n + 1) cap4)
    refine ⟨(Off.of_grown k1 (.inl (.inr (by omega)))).trans (.of_grown k2 (.inl (.inr (by omega)))), fun o h => kept_of (kept_of h k1 (by omega)) k2 (by omega), rfl, kept_of (kept_of h0 k1 (by omega)) k2 (by omega), kept_of (kept_of h1 k1 (by omega)) k2 (by omega), Nat.le_trans hz (Nat.le_trans k1.size k2.size), _, cs ++ [[a, b, c, d, e, f, x, y]], ?_, (hR4.fill hkn (hP' _ hP)).other k2 (by omega)⟩
    simpa using set_of (kept_of h2 k1 (by omega)) 7 (.slice (some ⟨g4, 0, none⟩) (n + 1) cap4)
  · have k2 := grown_cell w4 (B + 2) 7 (.slice (some ⟨g4, 0, none⟩) (n + 1) cap4)
    have k1 := put8_grown (w4.setCell ⟨B + 2, 7, none⟩ (.slice (some ⟨g4, 0, none⟩) (n + 1) cap4)) g4 (n * 8) a b c d e f x y
    refine ⟨(Off.of_grown k2 (.inl (.inr (by omega)))).trans (.of_grown k1 (.inl (.inr (by omega)))), fun o h => kept_of (kept_of h k2 (by omega)) k1 (by omega), rfl, kept_of (kept_of h0 k2 (by omega)) k1 (by omega), kept_of (kept_of h1 k2 (by omega)) k1 (by omega), Nat.le_trans hz (Nat.le_trans k2.size k1.size), _, cs ++ [[a, b, c, d, e, f, x, y]], ?_, (hR4.other k2 (by omega)).fill hkn (hP' _ (HoldP.keep k2.size (fun q hq hlt => k2.block q hlt (fun e => by cases e; omega)) z hP))⟩
    refine kept_of ?_ k1 (by omega)
    simpa using set_of h2 7 (.slice (some ⟨g4, 0, none⟩) (n + 1) cap4)
set_option maxRecDepth 100000 in
set_option maxHeartbeats 16000000 in
theorem mlist1_any {G R B K : Nat} {s : List UInt8} {u : Value} {o : Int} {wx : World} {p : Nat} {keys : List (List UInt8)} {kids : List Val} (hv : ValAt G R s u K o) (hRB : R < B) (hr : Rdr R s p o u wx) (hE : Env G wx) (hSt : StL B R keys kids wx) (hp : p ≤ s.length) (hk : kids.length < 100000) :
    Calls Tryz.prog 64 #[.pointer (some ⟨B, 0, none⟩), .pointer (some ⟨B + 2, 0, none⟩)] wx fun e w' => Off (fun i => i = R ∨ B + 2 ≤ i) wx w' ∧ ReadTold R s u o (StL B R) kids (part (value K) false keys (s.drop p)) e w' := by
  obtain ⟨rfl, hb0, hb1, hz, uu, cs, hb2, hrow⟩ := hSt
  obtain ⟨ao, co, -, hu⟩ : ∃ ao co, True ∧ uu = .slice ao kids.length co := by
    obtain ⟨a, c, h, -⟩ := hrow.holds
    exact ⟨a, c, trivial, h⟩
  subst hu
  have hval := hv wx p hr hE hp
  have hpart : part (value K) false [] (s.drop p) = match value K (s.drop p) with | .no r e => .no r e | .ok x r => .ok ([], x) r := by
    unfold part
    rw [named_list]
    rfl
  have hgn : ∀ r k, value K (s.drop p) = .no r k → k ≠ 0 := fun r k e => by
    have := value_good K (s.drop p)
    rw [e] at this
    exact this.2
  generalize value K (s.drop p) = g at *
  have HGN := Lib.hid hgn
  clear hgn
  generalize part (value K) false [] (s.drop p) = pg at *
  have hc0 := cell_of hb0 0
  have HV := Lib.hid hval
  have HPG := Lib.hid hpart
  have HROW := Lib.hid hrow
  generalize hkn : kids.length = n at *
  have HKN := Lib.hid hkn
  clear hval hpart hr hE hv hp hrow hkn
  unfold rp at hc0 HV
  go_enter Tryz.func64, Tryz.ntmps64
  go_wp2_with fail
  refine HV.out.mono ?_
  rintro e w1 hT
  obtain ⟨k0, b0, n0, t0, pk, lk, ck, ak, lv, cc, ek, rfl⟩ := hT.form
  have g1 := hT.grown
  obtain ⟨z, hzF, hcase⟩ := hT.holds
  have hb0' := kept_of hb0 g1 (by omega)
  have hb1' := kept_of hb1 g1 (by omega)
  have hb2' := kept_of hb2 g1 (by omega)
  have hrow1 := HROW.out.other g1 (by omega)
  have hE := World.alloc_heap_new w1 (.cells #[.int .i64 k0, .bool b0, .bool n0.neg, .string (txt n0.dig), .int .i64 n0.exp, .string (txt t0), .slice pk lk ck, .slice ak lv cc] 29)
  have bE : Below w1.heap.size w1 (w1.alloc (.cells #[.int .i64 k0, .bool b0, .bool n0.neg, .string (txt n0.dig), .int .i64 n0.exp, .string (txt t0), .slice pk lk ck, .slice ak lv cc] 29)) := (Below.refl _ w1).alloc (Nat.le_refl _) _
  have hw1z := g1.size
  have HT := Lib.hid hT
  have HC := Lib.hid hcase
  have HZF := Lib.hid hzF
  have HG1 := Lib.hid g1
  clear hT hcase hzF g1 hc0 HV
  go_wp2_with fail
  obtain ⟨W, hW⟩ : ∃ W, w1.alloc (.cells #[.int .i64 k0, .bool b0, .bool n0.neg, .string (txt n0.dig), .int .i64 n0.exp, .string (txt t0), .slice pk lk ck, .slice ak lv cc] 29) = W := ⟨_, rfl⟩
  have hWz : w1.heap.size < W.heap.size := by rw [← hW]; simp
  rw [hW] at hE bE
  rw [hW]
  have hb2W := (bE.block _ (lt_of_heap hb2')).trans hb2'
  have hrowW := hrow1.below bE
  have hown : ∀ g, (Value.slice ao n co).ownBlock = some g → g < w1.heap.size := fun g e => (hrow1.own_lt g e).2
  clear hW
  have HE0 := Lib.hid hE
  have HB2 := Lib.hid hb2W
  have HRW := Lib.hid hrowW
  have HOWN := Lib.hid hown
  obtain ⟨-, -, -, -, -, -, -, p7⟩ := eight hb2W
  obtain ⟨d0, d1, d2, d3, d4, d5, d6, d7⟩ := eight hE
  clear hb0 hb1 hb2 hrow1 hE hb2W hrowW hown
  have hlB : B + 2 < W.heap.size := by omega
  have hown0 : ∀ g, (Value.slice ao n co).ownBlock = some g → B + 3 ≤ g ∧ g < wx.heap.size := HROW.out.own_lt
  have HOWN0 := Lib.hid hown0
  have hlt' : (n : Int) < (n : Int) + 1 := by omega
  clear hown0
  go_region_law
    (first | (refine Tre.step_push4 (by rfl) _ _ (by rfl) (B + 3) W.heap.size HKN.out (by rfl) (by rfl) (new8 W.drew zerosL rfl) ((HRW.out.below (drew_below W)).below ((Below.refl _ W.drew).alloc (Nat.le_refl _) _)) (zeros_hold _ _) (by omega) (fun g e => Nat.lt_trans (HOWN.out g e) hWz) (fun g e => by cases e) (by omega) (by simp; omega) ?_; intro g4 cap4 w4 hR4 hg4 hg4'; have bl : ∀ b o, W.heap[b]? = some o → (∀ g, (Value.slice ao n co).ownBlock = some g → b ≠ g) → w4.heap[b]? = some o := (fun b o h hne => (hg4.block b (by have := lt_of_heap h; simp; omega) (fun e => hne b e.symm rfl)).trans (new_of (show W.drew.heap[b]? = some o from h) _)); have hb2_4 := bl _ _ HB2.out (fun g e => by have := (HOWN0.out g e).1; omega); have hE_4 := bl _ _ HE0.out (fun g e => by have := HOWN.out g e; omega); obtain ⟨hgB, -, hnc, cur, hcur, hcz, -⟩ := hR4.block; obtain ⟨z0, z1, z2, z3, z4, z5, z6, z7, m0, m1, m2, m3, m4, m5, m6, m7⟩ := Tre.block8 hcur (o := n * 8) (by omega); have y0 := free_of hcur (n * 8); have y1 := free_of hcur (n * 8 + 1); have y2 := free_of hcur (n * 8 + 2); have y3 := free_of hcur (n * 8 + 3); have y4 := free_of hcur (n * 8 + 4); have y5 := free_of hcur (n * 8 + 5); have y6 := free_of hcur (n * 8 + 6); have y7 := free_of hcur (n * 8 + 7); have f7 := free_of hb2_4 7; have c7 := cell_of hb2_4 7; have hne4 : ¬ g4 = B + 2 := (by omega); have HCUR := Lib.hid hcur; have HCZ := Lib.hid hcz; have HBL := Lib.hid bl; have HR4 := Lib.hid hR4; have HG4 := Lib.hid hg4; have HG5 := Lib.hid hg4'; clear hcur hcz bl hR4 hg4 hg4' hb2_4 hE_4))
  all_goals
    have hb2_4 := HBL.out _ _ HB2.out (fun g e => by have := (HOWN0.out g e).1; omega)
    have hb0_4 := HBL.out _ _ ((bE.block _ (lt_of_heap hb0')).trans hb0') (fun g e => by have := (HOWN0.out g e).1; omega)
    have hb1_4 := HBL.out _ _ ((bE.block _ (lt_of_heap hb1')).trans hb1') (fun g e => by have := (HOWN0.out g e).1; omega)
    have hr4 : ∀ (q : Nat) (o' : Int), Rdr R s q o' u w1 → Rdr R s q o' u w4 := fun q o' h => HBL.out _ _ ((bE.block _ (lt_of_heap h)).trans h) (fun g e => by have := (HOWN0.out g e).1; omega)
    have hz4 : B + 3 ≤ w4.heap.size := Nat.le_trans (by simp; omega) HG4.out.size
    have x4 : Off (fun i => i = R ∨ B + 2 ≤ i) wx w4 := by
      refine ((Off.of_grown HG1.out (.inl (.inl rfl))).trans ((Off.of_below bE).trans (.of_below (drew_below W)))).trans ⟨HG4.out.os, HG4.out.tape, HG4.out.output, Nat.le_trans (by simp) HG4.out.size, fun i hi hx => ?_⟩
      refine (HG4.out.block i (by simp at hi ⊢; omega) fun e => ?_).trans (Below.heap_alloc _ _ _ hi)
      have := (HOWN0.out i e.symm).1
      omega
    have hP : HoldP (fun q => B + 3 ≤ q ∧ q ≠ g4) w4 [.int .i64 k0, .bool b0, .bool n0.neg, .string (txt n0.dig), .int .i64 n0.exp, .string (txt t0), .slice pk lk ck, .slice ak lv cc] z := by
      obtain ⟨cs', hcs, hp⟩ := HZF.out
      obtain rfl : cs' = [.int .i64 k0, .bool b0, .bool n0.neg, .string (txt n0.dig), .int .i64 n0.exp, .string (txt t0), .slice pk lk ck, .slice ak lv cc] := by
        injection hcs with hcs
        have := congrArg Array.toList hcs
        simpa using this.symm
      have ne4 : ∀ q, wx.heap.size ≤ q ∧ q < w1.heap.size → q ≠ g4 := fun q hq e => by
        subst e
        rcases HG5.out with e | e
        · have := (HOWN0.out _ e).2
          omega
        · simp at e
          omega
      have kp : ∀ q, wx.heap.size ≤ q ∧ q < w1.heap.size → q < w1.heap.size → w4.heap[q]? = w1.heap[q]? := fun q hq hlt => by
        obtain ⟨ob, ho⟩ : ∃ ob, w1.heap[q]? = some ob := ⟨_, Array.getElem?_eq_getElem hlt⟩
        rw [ho]
        exact HBL.out _ _ ((bE.block _ hlt).trans ho) (fun g e => by have := (HOWN0.out g e).2; omega)
      exact HoldP.mono (X := fun q => wx.heap.size ≤ q ∧ q < w1.heap.size) (fun q hq _ => ⟨by omega, ne4 q hq⟩) z (HoldP.keep (w := w1) (by have := HG4.out.size; simp at this; omega) kp z (HoldP.mono (fun q hq hlt => ⟨hq, hlt⟩) z hp))
    obtain ⟨fA, fB⟩ := list_fin HR4.out HKN.out hb0_4 hb1_4 hb2_4 hz4 hP hRB
    have told : ∀ wf, Fin B R w4 (StL B R [] (kids ++ [z])) wf → Off (fun i => i = R ∨ B + 2 ≤ i) wx wf ∧ ReadTold R s u o (StL B R) kids pg (.returned (.int .i64 ek)) wf := fun wf hf => by
      refine ⟨x4.trans hf.1, ?_⟩
      rcases HC.out with ⟨r, hg, he, hr⟩ | ⟨r, k, hg, he, o', hr⟩
      · rw [HPG.out, hg, he]
        exact ⟨rfl, hf.2.1 _ (hr4 _ _ hr), hf.2.2⟩
      · rw [HPG.out, hg, he]
        exact ⟨HGN.out _ _ hg, rfl, o', hf.2.1 _ (hr4 _ _ hr)⟩
    have tA := told _ fA
    have tB := told _ fB
    unfold put8 at tA tB
    have HTA := Lib.hid tA
    have HTB := Lib.hid tB
    clear fA fB told tA tB hP x4 hz4 hr4 hb0_4 hb1_4 hb2_4
    clear bE hb0' hb1' hb2' hw1z hWz m0 m1 m2 m3 m4 m5 m6 m7 y0 y1 y2 y3 y4 y5 y6 y7 f7 c7 hlt' hne4 hlB hz hk z0 z1 z2 z3 z4 z5 z6 z7 p7 d0 d1 d2 d3 d4 d5 d6 d7
    go_wp2_with fail
    refine bodyPost_ret (v := .int .i64 ek) (by simp [results, Tryz.results64, go_sem]) rfl ?_
    first | with_reducible exact HTA.out | with_reducible exact HTB.out
end Go.Proofs.YtlfbnfphocpgeaaGreatDoor.Jdec
namespace Go.Proofs.YtlfbnfphocpgeaaGreatDoor.Jdec
open Go.RowKit Kit Txt
open Utf (nb)
open Tre (Val HoldF HoldP zeroV RowC RowT Rows2 Seen put8 none')
/-- The object so far. -/
def StO (B R : Nat) (keys : List (List UInt8)) (kids : List Val) (w : World) : Prop :=
  keys.length = kids.length ∧ w.heap[B]? = some (.cells #[rp R] 80 (0, 0)) ∧ w.heap[B + 1]? = some (.cells #[.int .i64 0, .bool false, .bool false, .string ⟨#[]⟩, .int .i64 0, .string ⟨#[]⟩, .slice none 0 0, .slice none 0 0] 29 (0, 0)) ∧ B + 5 ≤ w.heap.size ∧
  w.heap[B + 4]? = some (.cells #[.map (some (B + 3))] 95 (0, 0)) ∧ Seen w (B + 3) keys.length keys ∧
  ∃ (uk uv : Value) (cs : List (List Value)), w.heap[B + 2]? = some (.cells #[.int .i64 6, .bool false, .bool false, .string ⟨#[]⟩, .int .i64 0, .string ⟨#[]⟩, uk, uv] 29 (0, 0)) ∧ RowT (B + 5) w uk keys ∧ RowC uk.ownBlock (B + 5) w uv kids cs
theorem rowT_off {X : Nat → Prop} {B : Nat} {a b : World} {u : Value} {ls : List (List UInt8)} (h : RowT B a u ls) (k : Off X a b) (hX : ∀ i, X i → i < B) : RowT B b u ls :=
  ⟨h.1, h.2.imp id fun ⟨g, cap, cur, e, hg, hb, rest⟩ => ⟨g, cap, cur, e, hg, k.at hb (fun hx => by have := hX g hx; omega), rest⟩⟩
theorem rowC_off {X : Nat → Prop} {N : Option Nat} {B : Nat} {a b : World} {u : Value} {vs : List Val} {cs : List (List Value)} (h : RowC N B a u vs cs) (k : Off X a b) (hX : ∀ i, X i → i < B) : RowC N B b u vs cs :=
  ⟨h.1, ⟨h.2.1.1, h.2.1.2.imp id fun ⟨g, cap, cur, e, hg, hb, rest⟩ => ⟨g, cap, cur, e, hg, k.at hb (fun hx => by have := hX g hx; omega), rest⟩⟩,
    fun i c v h1 h2 => HoldP.keep k.size (fun g hg hlt => k.block g hlt (fun hx => by have := hX g hx; have := hg.1; omega)) v (h.2.2 i c v h1 h2)⟩
theorem StO.keep {B R : Nat} {keys : List (List UInt8)} {kids : List Val} {a b : World} (hRB : R < B) (h : StO B R keys kids a) (k : a.grownBy b (some R)) : StO B R keys kids b := by
  obtain ⟨h1, h2, h3, h4, h5, h6, uk, uv, cs, h7, h8, h9⟩ := h
  exact ⟨h1, kept_of h2 k (by omega), kept_of h3 k (by omega), Nat.le_trans h4 k.size, kept_of h5 k (by omega), seen_other h6 (k.block _ (seen_lt h6) (by simp; omega)), uk, uv, cs, kept_of h7 k (by omega), h8.other k (by omega), h9.other k (by omega)⟩
theorem part_obj (val : List UInt8 → Got Val) (keys : List (List UInt8)) (l : List UInt8) : part val true keys l =
    match field keys l with
    | .no r e => .no r e
    | .ok k r1 => match val r1 with
      | .no r e => .no r e
      | .ok x r => .ok (keys ++ [k], x) r := by
  unfold part
  rw [show named true keys l = (match field keys l with | .ok k r => .ok (keys ++ [k]) r | .no r e => .no r e) from rfl]
  cases field keys l <;> rfl
/-- What is left behind the appends of a part. -/
theorem obj_fin {B R : Nat} {L : List (Nat × Obj)} {w4 : World} {keys : List (List UInt8)} {kids : List Val} {cs : List (List Value)} {c : List Value} {z : Val} {uk uv sk sv : Value} (hR4 : Rows2 (B + 5) L w4 sk keys sv kids cs c z) (hlen : keys.length = kids.length)
    (h0 : w4.heap[B]? = some (.cells #[rp R] 80 (0, 0))) (h1 : w4.heap[B + 1]? = some (.cells #[.int .i64 0, .bool false, .bool false, .string ⟨#[]⟩, .int .i64 0, .string ⟨#[]⟩, .slice none 0 0, .slice none 0 0] 29 (0, 0)))
    (h2 : w4.heap[B + 2]? = some (.cells #[.int .i64 6, .bool false, .bool false, .string ⟨#[]⟩, .int .i64 0, .string ⟨#[]⟩, uk, uv] 29 (0, 0))) (h4 : w4.heap[B + 4]? = some (.cells #[.map (some (B + 3))] 95 (0, 0))) (hS : Seen w4 (B + 3) keys.length keys) (hRB : R < B) :
    Fin B R w4 (StO B R keys kids) ((w4.setCell ⟨B + 2, 6, none⟩ sk).setCell ⟨B + 2, 7, none⟩ sv) ∧ Fin B R w4 (StO B R keys kids) ((w4.setCell ⟨B + 2, 7, none⟩ sv).setCell ⟨B + 2, 6, none⟩ sk) := by
  have one : ∀ wf : World, w4.grownBy wf (some (B + 2)) → wf.heap[B + 2]? = some (.cells #[.int .i64 6, .bool false, .bool false, .string ⟨#[]⟩, .int .i64 0, .string ⟨#[]⟩, sk, sv] 29 (0, 0)) → Fin B R w4 (StO B R keys kids) wf := fun wf k e =>
    ⟨.of_grown k (.inl (.inr (by omega))), fun o h => kept_of h k (by omega), hlen, kept_of h0 k (by omega), kept_of h1 k (by omega), Nat.le_trans hR4.base k.size, kept_of h4 k (by omega), seen_other hS (k.block _ (seen_lt hS) (by simp)), sk, sv, cs, e, hR4.T.other k (by omega), hR4.C.other k (by omega)⟩
  constructor
  · refine one _ (grown_trans (grown_cell _ _ _ _) (grown_cell _ _ _ _)) ?_
    simpa using set_of (set_of h2 6 sk) 7 sv
  · refine one _ (grown_trans (grown_cell _ _ _ _) (grown_cell _ _ _ _)) ?_
    simpa using set_of (set_of h2 7 sv) 6 sk
theorem Off.weak {X Y : Nat → Prop} {a b : World} (h : Off X a b) (hXY : ∀ i, X i → Y i) : Off Y a b := h.mono fun i _ => hXY i
/-- What is told behind both appends. -/
theorem obj_told {R B nk : Nat} {L : List (Nat × Obj)} {s : List UInt8} {u : Value} {o : Int} {wx w1 w2 W wc : World} {keys : List (List UInt8)} {k : List UInt8} {kids : List Val} {cs : List (List Value)} {c : List Value} {z : Val} {uk uv sk sv : Value} {pg : Got (List (List UInt8) × Val)} {g : Got Val} {ek : Int}
    (hX1 : Off (fun i => i = R ∨ B + 2 ≤ i) wx w1) (hG2 : w1.grownBy w2 (some R)) (hBE : Below w2.heap.size w2 W) (hBW : Below (B + 5) W wc) (hR4 : Rows2 (B + 5) L wc sk (keys ++ [k]) sv (kids ++ [z]) cs c z) (hnk : keys.length = nk) (hlen : nk = kids.length)
    (h0 : W.heap[B]? = some (.cells #[rp R] 80 (0, 0))) (h1 : W.heap[B + 1]? = some (.cells #[.int .i64 0, .bool false, .bool false, .string ⟨#[]⟩, .int .i64 0, .string ⟨#[]⟩, .slice none 0 0, .slice none 0 0] 29 (0, 0)))
    (h2 : W.heap[B + 2]? = some (.cells #[.int .i64 6, .bool false, .bool false, .string ⟨#[]⟩, .int .i64 0, .string ⟨#[]⟩, uk, uv] 29 (0, 0))) (h4 : W.heap[B + 4]? = some (.cells #[.map (some (B + 3))] 95 (0, 0))) (hS : Seen W (B + 3) (nk + 1) (keys ++ [k])) (hRB : R < B)
    (hpg : pg = match g with | .no r e => .no r e | .ok x r => .ok (keys ++ [k], x) r) (hgn : ∀ r n, g = .no r n → n ≠ 0)
    (hc : (∃ r, g = .ok z r ∧ ek = 0 ∧ Rdr R s (s.length - r.length) o u w2) ∨ (∃ r n, g = .no r n ∧ ek = ((n : Nat) : Int) ∧ ∃ o', Rdr R s (s.length - r.length) o' u w2)) :
    Off (fun i => i = R ∨ B + 2 ≤ i) wx ((wc.setCell ⟨B + 2, 6, none⟩ sk).setCell ⟨B + 2, 7, none⟩ sv) ∧ ReadTold R s u o (StO B R) kids pg (.returned (.int .i64 ek)) ((wc.setCell ⟨B + 2, 6, none⟩ sk).setCell ⟨B + 2, 7, none⟩ sv) := by
  have bl : ∀ i ob, i < B + 5 → W.heap[i]? = some ob → wc.heap[i]? = some ob := fun i ob hi h => (hBW.block i hi).trans h
  have hl : (keys ++ [k]).length = nk + 1 := by simp [hnk]
  obtain ⟨hf, -⟩ := obj_fin hR4 (by simp; omega) (bl _ _ (by omega) h0) (bl _ _ (by omega) h1) (bl _ _ (by omega) h2) (bl _ _ (by omega) h4) (by rw [hl]; exact seen_other hS (hBW.block _ (by omega))) hRB
  have hr4 : ∀ (q : Nat) (o' : Int), Rdr R s q o' u w2 → Rdr R s q o' u wc := fun q o' h => bl _ _ (by omega) ((hBE.block _ (lt_of_heap h)).trans h)
  have x4 : Off (fun i => i = R ∨ B + 2 ≤ i) wx wc := ((hX1.trans (.of_grown hG2 (.inl (.inl rfl)))).trans (.of_below hBE)).trans ⟨hBW.os, hBW.tape, hBW.output, hBW.size, fun i _ hx => hBW.block i (by have : ¬ B + 2 ≤ i := fun h => hx (.inr h); omega)⟩
  refine ⟨x4.trans hf.1, ?_⟩
  rcases hc with ⟨r, hg, he, hr⟩ | ⟨r, n, hg, he, o', hr⟩
  · rw [hpg, hg, he]
    exact ⟨rfl, hf.2.1 _ (hr4 _ _ hr), hf.2.2⟩
  · rw [hpg, hg, he]
    exact ⟨hgn _ _ hg, rfl, o', hf.2.1 _ (hr4 _ _ hr)⟩
set_option maxRecDepth 100000 in
set_option maxHeartbeats 16000000 in
theorem mobj1_any {G R B K : Nat} {s : List UInt8} {u : Value} {o : Int} {wx : World} {p : Nat} {keys : List (List UInt8)} {kids : List Val} (hs : s.length < 100000) (hv : ValAt G R s u K o) (hRB : R < B) (hr : Rdr R s p o u wx) (hE : Env G wx) (hSt : StO B R keys kids wx) (hp : p ≤ s.length) (hk : kids.length < 100000) (hKI : ∀ a b : World, Env G a → Off (fun i => i = R ∨ B + 2 ≤ i) a b → Env G b) :
    Calls Tryz.prog 62 #[.pointer (some ⟨B, 0, none⟩), .pointer (some ⟨B + 4, 0, none⟩), .pointer (some ⟨B + 2, 0, none⟩)] wx fun e w' => Off (fun i => i = R ∨ B + 2 ≤ i) wx w' ∧ ReadTold R s u o (StO B R) kids (part (value K) true keys (s.drop p)) e w' := by
  obtain ⟨hkl, hb0, hb1, hz, hb4, hS, uk, uv, cs, hb2, hT, hrow⟩ := hSt
  have hkey := mkey_any hs hp (by omega) hE.utf hr hS
  have hfg := field_good keys (s.drop p)
  have hpart := part_obj (value K) keys (s.drop p)
  have hvg := value_good K
  have hval := fun (w1 : World) (q1 : Nat) (h : Rdr R s q1 o u w1) (he : Env G w1) (hq : q1 ≤ s.length) => hv w1 q1 h he hq
  generalize part (value K) true keys (s.drop p) = pg at *
  generalize hgg : field keys (s.drop p) = g at *
  have hc0 := cell_of hb0 0
  have hc4 := cell_of hb4 0
  unfold rp at hc0 hkey
  have HKEY := Lib.hid hkey
  have HKL := Lib.hid hkl
  have HPG := Lib.hid hpart
  have HFG := Lib.hid hfg
  have HVG := Lib.hid hvg
  have HV := Lib.hid hval
  have HE := Lib.hid hE
  have HT0 := Lib.hid hT
  have HC0 := Lib.hid hrow
  have HKI := Lib.hid hKI
  clear hkey hkl hpart hfg hvg hv hval hE hT hrow hgg hr hS hKI
  go_enter Tryz.func62, Tryz.ntmps62
  go_wp2_with fail
  refine HKEY.out.mono ?_
  rintro e w1 ⟨x1, hk1⟩
  have x1' := x1.weak (Y := fun i => i = R ∨ B + 2 ≤ i) (fun i h => h.imp id (fun e => by omega))
  cases g with
  | no r n =>
    obtain ⟨rfl, r1⟩ := hk1
    have hfg := HFG.out
    have hn0 : n ≠ 0 := hfg.2
    have hne : (((n : Nat) : Int) != 0) = true := by simpa using hn0
    have fin : Off (fun i => i = R ∨ B + 2 ≤ i) wx w1 ∧ ReadTold R s u o (StO B R) kids pg (.returned (.int .i64 n)) w1 := by
      rw [HPG.out]
      exact ⟨x1', hn0, rfl, o, r1⟩
    have HF := Lib.hid fin
    clear fin x1 x1' hfg hn0 r1
    go_wp2_with fail
    go_ret
    exact HF.out
  | ok k r1 =>
    obtain ⟨rfl, hr1, hS1⟩ := hk1
    have hfg := HFG.out
    have hsuf : r1 <:+ s := hfg.1.trans (List.drop_suffix _ _)
    have hdr : s.drop (s.length - r1.length) = r1 := drop_suf hsuf
    have hval := HV.out w1 _ hr1 (HKI.out _ _ HE.out x1') (Nat.sub_le _ _)
    rw [hdr] at hval
    have hgn : ∀ r k, value K r1 = .no r k → k ≠ 0 := fun r k e => by
      have := HVG.out r1
      rw [e] at this
      exact this.2
    have hpg := HPG.out
    dsimp only at hpg
    generalize value K r1 = g at *
    have hX : ∀ i, (i = R ∨ i = B + 3) → i < B + 5 := fun i h => by omega
    have hb0' := x1.at hb0 (by omega)
    have hb1' := x1.at hb1 (by omega)
    have hb2' := x1.at hb2 (by omega)
    have hb4' := x1.at hb4 (by omega)
    have hT1 := rowT_off HT0.out x1 hX
    have hC1 := rowC_off HC0.out x1 hX
    have hz1 := Nat.le_trans hz x1.size
    clear hc0 hc4 hdr hsuf hfg hX
    have hc0 := cell_of hb0' 0
    unfold rp at hc0 hval
    have HPG2 := Lib.hid hpg
    have HGN := Lib.hid hgn
    have HV1 := Lib.hid hval
    have HT1 := Lib.hid hT1
    have HC1 := Lib.hid hC1
    have HS1 := Lib.hid hS1
    have HX1 := Lib.hid x1'
    clear hpg hgn hval hT1 hC1 hS1 x1 x1' hr1 hb0 hb1 hb2 hb4
    go_wp2_with fail
    refine HV1.out.mono ?_
    rintro e w2 hTo
    obtain ⟨k0, b0, n0, t0, pk, lk, ck, ak, lv, cc, ek, rfl⟩ := hTo.form
    have g2 := hTo.grown
    obtain ⟨z, hzF, hcase⟩ := hTo.holds
    have hb0'' := kept_of hb0' g2 (by omega)
    have hb1'' := kept_of hb1' g2 (by omega)
    have hb2'' := kept_of hb2' g2 (by omega)
    have hb4'' := kept_of hb4' g2 (by omega)
    have hT2 := HT1.out.other g2 (by omega)
    have hC2 := HC1.out.other g2 (by omega)
    have hS2 := seen_other HS1.out (g2.block _ (seen_lt HS1.out) (by simp; omega))
    have hz2 := Nat.le_trans hz1 g2.size
    have hE := World.alloc_heap_new w2 (.cells #[.int .i64 k0, .bool b0, .bool n0.neg, .string (txt n0.dig), .int .i64 n0.exp, .string (txt t0), .slice pk lk ck, .slice ak lv cc] 29)
    have bE : Below w2.heap.size w2 (w2.alloc (.cells #[.int .i64 k0, .bool b0, .bool n0.neg, .string (txt n0.dig), .int .i64 n0.exp, .string (txt t0), .slice pk lk ck, .slice ak lv cc] 29)) := (Below.refl _ w2).alloc (Nat.le_refl _) _
    have hwz := g2.size
    have HC := Lib.hid hcase
    have HZF := Lib.hid hzF
    have HG2 := Lib.hid g2
    clear hTo hcase hzF g2 hc0 HV1
    go_wp2_with fail
    obtain ⟨W, hW⟩ : ∃ W, w2.alloc (.cells #[.int .i64 k0, .bool b0, .bool n0.neg, .string (txt n0.dig), .int .i64 n0.exp, .string (txt t0), .slice pk lk ck, .slice ak lv cc] 29) = W := ⟨_, rfl⟩
    have hWz : w2.heap.size < W.heap.size := by rw [← hW]; simp
    rw [hW] at hE bE
    rw [hW]
    clear hW
    have oT : ∀ g, uk.ownBlock = some g → B + 5 ≤ g ∧ g < w1.heap.size := Tre.rowT_lt HT1.out
    have oC : ∀ g, uv.ownBlock = some g → B + 5 ≤ g ∧ g < w1.heap.size := HC1.out.own_lt
    have hX0 : Rows2 (B + 5) [(w2.heap.size, Obj.cells [.int .i64 k0, .bool b0, .bool n0.neg, .string (txt n0.dig), .int .i64 n0.exp, .string (txt t0), .slice pk lk ck, .slice ak lv cc].toArray 29 (0, 0))] W uk keys uv kids cs [.int .i64 k0, .bool b0, .bool n0.neg, .string (txt n0.dig), .int .i64 n0.exp, .string (txt t0), .slice pk lk ck, .slice ak lv cc] z := by
      refine ⟨by omega, hT2.below bE, hC2.below bE, ?_, fun e he => ?_⟩
      · obtain ⟨cs', hcs, hp⟩ := HZF.out
        obtain rfl : cs' = [.int .i64 k0, .bool b0, .bool n0.neg, .string (txt n0.dig), .int .i64 n0.exp, .string (txt t0), .slice pk lk ck, .slice ak lv cc] := by
          injection hcs with hcs
          have := congrArg Array.toList hcs
          simpa using this.symm
        exact HoldP.mono (fun q hq _ => ⟨by have : w1.heap.size ≤ q := hq; omega, fun e => by have := (oC q e).2; have : w1.heap.size ≤ q := hq; omega, fun e => by have := (oT q e).2; have : w1.heap.size ≤ q := hq; omega⟩) z (HoldP.keep bE.size (fun q _ hlt => bE.block q hlt) z hp)
      · obtain rfl := List.mem_singleton.1 he
        exact ⟨hE, fun e => by have := (oC _ e).2; omega, fun e => by have := (oT _ e).2; omega⟩
    obtain ⟨ao, co, hao⟩ := Tre.rowT_slice hT2
    obtain ⟨av, cv, hav⟩ := Tre.rowC_slice hC2
    subst hao; subst hav
    have hb2W := (bE.block _ (lt_of_heap hb2'')).trans hb2''
    have hb0W := (bE.block _ (lt_of_heap hb0'')).trans hb0''
    have hb1W := (bE.block _ (lt_of_heap hb1'')).trans hb1''
    have hb4W := (bE.block _ (lt_of_heap hb4'')).trans hb4''
    have hSW := hS2.grown bE
    obtain ⟨-, -, -, -, -, -, p6, p7⟩ := eight hb2W
    obtain ⟨d0, d1, d2, d3, d4, d5, d6, d7⟩ := eight hE
    have hX := hX0.below (drew_below W)
    have hBW : Below (B + 5) W W.drew := (drew_below W).mono (by omega)
    have hlB : B + 2 < W.heap.size := by omega
    have hkn : keys.length < 1000000 := by have := HKL.out; omega
    have HB0 := Lib.hid hb0W
    have HB1 := Lib.hid hb1W
    have HB2 := Lib.hid hb2W
    have HB4 := Lib.hid hb4W
    have HSW := Lib.hid hSW
    have HBE := Lib.hid bE
    have hkv : kids.length < 1000000 := by omega
    generalize hnk : keys.length = nk at *
    generalize hnv : kids.length = nv at *
    have HNK := Lib.hid hnk
    have HNV := Lib.hid hnv
    clear hnk hnv
    have hneE : ¬ w2.heap.size = B + 2 := by omega
    have hneE' : ¬ B + 2 = w2.heap.size := by omega
    clear hb0' hb1' hb2' hb4' hb0'' hb1'' hb2'' hb4'' hb0W hb1W hb2W hb4W hSW hS2 hT2 hC2 hE bE oT oC hX0 HT1 HC1 HT0 HC0 hz1 hz HKEY
    have fW6 := free_of HB2.out 6
    have fW7 := free_of HB2.out 7
    go_region_law
      (first
        | (refine Tre.step_keys (by rfl) _ _ (by rfl) (l := k) HNK.out (by rfl) (by rfl) (by first | exact hX | exact hX.add _ | exact (hX.add _).add _) (by simp) hkn ?_; intro ga capa wa hX2 hb; have hBW2 : Below (B + 5) W wa := (by first | exact hBW.trans hb | exact (hBW.alloc hX.base _).trans hb | exact ((hBW.alloc hX.base _).alloc (by have := hX.base; simp; omega) _).trans hb); clear hX hBW hb; have hX := hX2; have hBW := hBW2; clear hX2 hBW2; (try clear q6 q7 f6 f7 hlB2 hlE2 m0 m1 m2 m3 m4 m5 m6 m7); obtain ⟨m0, m1, m2, m3, m4, m5, m6, m7⟩ := eight (hX.get (i := w2.heap.size) (o := .cells #[.int .i64 k0, .bool b0, .bool n0.neg, .string (txt n0.dig), .int .i64 n0.exp, .string (txt t0), .slice pk lk ck, .slice ak lv cc] 29) (by simp)); have hlB2 := (show B + 2 < _ from Nat.lt_of_lt_of_le (show B + 2 < B + 5 by omega) hX.base); have hlE2 := lt_of_heap (hX.get (i := w2.heap.size) (o := .cells #[.int .i64 k0, .bool b0, .bool n0.neg, .string (txt n0.dig), .int .i64 n0.exp, .string (txt t0), .slice pk lk ck, .slice ak lv cc] 29) (by simp)); have q6 := (hBW.cell (p := ⟨B + 2, 6, none⟩) (by dsimp only; omega)).trans p6; have q7 := (hBW.cell (p := ⟨B + 2, 7, none⟩) (by dsimp only; omega)).trans p7; have f6 := (hBW.frozen (p := ⟨B + 2, 6, none⟩) (by dsimp only; omega)).trans fW6; have f7 := (hBW.frozen (p := ⟨B + 2, 7, none⟩) (by dsimp only; omega)).trans fW7)
        | (refine Tre.step_kids (by rfl) _ _ (by rfl) HNV.out (by rfl) (by rfl) (by first | exact hX | exact hX.add _ | exact (hX.add _).add _) (by simp) hkv ?_; intro gb capb wb hX2 hb; have hBW2 : Below (B + 5) W wb := (by first | exact hBW.trans hb | exact (hBW.alloc hX.base _).trans hb | exact ((hBW.alloc hX.base _).alloc (by have := hX.base; simp; omega) _).trans hb); clear hX hBW hb; have hX := hX2; have hBW := hBW2; clear hX2 hBW2; (try clear q6 q7 f6 f7 hlB2 hlE2 m0 m1 m2 m3 m4 m5 m6 m7); obtain ⟨m0, m1, m2, m3, m4, m5, m6, m7⟩ := eight (hX.get (i := w2.heap.size) (o := .cells #[.int .i64 k0, .bool b0, .bool n0.neg, .string (txt n0.dig), .int .i64 n0.exp, .string (txt t0), .slice pk lk ck, .slice ak lv cc] 29) (by simp)); have hlB2 := (show B + 2 < _ from Nat.lt_of_lt_of_le (show B + 2 < B + 5 by omega) hX.base); have hlE2 := lt_of_heap (hX.get (i := w2.heap.size) (o := .cells #[.int .i64 k0, .bool b0, .bool n0.neg, .string (txt n0.dig), .int .i64 n0.exp, .string (txt t0), .slice pk lk ck, .slice ak lv cc] 29) (by simp)); have q6 := (hBW.cell (p := ⟨B + 2, 6, none⟩) (by dsimp only; omega)).trans p6; have q7 := (hBW.cell (p := ⟨B + 2, 7, none⟩) (by dsimp only; omega)).trans p7; have f6 := (hBW.frozen (p := ⟨B + 2, 6, none⟩) (by dsimp only; omega)).trans fW6; have f7 := (hBW.frozen (p := ⟨B + 2, 7, none⟩) (by dsimp only; omega)).trans fW7))
    all_goals
      have HF := Lib.hid (obj_told HX1.out HG2.out HBE.out hBW hX HNK.out (HKL.out.trans HNV.out.symm) HB0.out HB1.out HB2.out HB4.out HSW.out hRB HPG2.out HGN.out HC.out)
      clear hX hBW q6 q7 f6 f7 hlB2 hlE2 m0 m1 m2 m3 m4 m5 m6 m7 d0 d1 d2 d3 d4 d5 d6 d7 p6 p7 fW6 fW7 hneE hneE' hlB hkn hkv hWz hwz hz2 hk
      go_wp2_with fail
      refine bodyPost_ret (v := .int .i64 ek) (by simp [results, Tryz.results62, go_sem]) rfl ?_
      with_reducible exact HF.out
end Go.Proofs.YtlfbnfphocpgeaaGreatDoor.Jdec
namespace Go.Proofs.YtlfbnfphocpgeaaGreatDoor.Num
open Go.RowKit Kit

/-! the library's, at texts -/
theorem cutPre_any (l : List UInt8) (w : World) : Calls Tryz.prog 95 #[.string (txt l), .string ⟨#[45]⟩] w fun e w' => e = .returned (.tuple #[.string (txt (Lib.trimPrefix l [45])), .bool (Lib.hasPrefix l [45])]) ∧ w' = w := Tryz.strings_CutPrefix (txt l) ⟨#[45]⟩ w
theorem trimPre_any (l : List UInt8) (w : World) : Calls Tryz.prog 160 #[.string (txt l), .string ⟨#[43]⟩] w fun e w' => e = .returned (.string (txt (Lib.trimPrefix l [43]))) ∧ w' = w := Tryz.strings_TrimPrefix (txt l) ⟨#[43]⟩ w
theorem trimL_any (l : List UInt8) (w : World) : Calls Tryz.prog 98 #[.string (txt l), .string ⟨#[48]⟩] w fun e w' => e = .returned (.string (txt (l.dropWhile z48))) ∧ w' = w := by
  rw [← trim_l]
  exact Tryz.strings_TrimLeft_one (txt l) 48 (by decide) w
theorem trimR_any {l : List UInt8} (hl : l.length < 1000000) (w : World) (e : Int) : Calls Tryz.prog 99 #[.string (txt l), .string ⟨#[48]⟩] w fun r w' => r = .returned (.string (txt (strip l e).1)) ∧ w' = w := by
  rw [← trim_r l e]
  exact Tryz.strings_TrimRight_one (txt l) 48 (by decide) w (by rw [txt_size]; omega)
theorem idxAny_any {l : List UInt8} (hl : l.length < 1000000) (ha : ∀ c ∈ l, c.toNat < 128) (w : World) : Calls Tryz.prog 128 #[.string (txt l), .string ⟨#[101, 69]⟩] w fun e w' => e = .returned (.int .i64 (Lib.indexAny l [101, 69])) ∧ Below w.heap.size w w' :=
  Tryz.strings_IndexAny_laid (txt l) ⟨#[101, 69]⟩ w (by rw [txt_size]; omega) (by decide) (fun j b hb => ha b (List.mem_of_getElem? hb)) (fun j b hb => by
    have : b ∈ ([101, 69] : List UInt8) := List.mem_of_getElem? hb
    simp at this
    rcases this with rfl | rfl <;> decide)
theorem sidx_any (l : List UInt8) (w : World) : Calls Tryz.prog 161 #[.string (txt l), .string ⟨#[46]⟩] w fun e w' => e = .returned (.int .i64 (Lib.indexByte l 46)) ∧ w' = w := Tryz.stringslite_Index_one (txt l) 46 w
set_option maxRecDepth 100000 in
theorem clone_any {l : List UInt8} (hl : l.length < 1000000) {w : World} : Calls Tryz.prog 78 #[.string (txt l)] w fun e w' => e = .returned (.string (txt l)) ∧ Below w.heap.size w w' := by
  have h := Tryz.stringslite_Clone (txt l) w (by rw [txt_size]; omega)
  go_enter Tryz.func78, Tryz.ntmps78
  go_wp2_with fail
  refine h.mono ?_
  rintro e w1 ⟨rfl, k1⟩
  go_wp2_with fail
  go_ret
  exact ⟨rfl, k1⟩
set_option maxRecDepth 100000 in
theorem scut_any {I F : List UInt8} (hI : ∀ c ∈ I, dg c = true) (hl : (mantT I F).length < 1000000) {w : World} :
    Calls Tryz.prog 130 #[.string (txt (mantT I F)), .string ⟨#[46]⟩] w fun e w' => e = .returned (.tuple #[.string (txt I), .string (txt F), .bool (decide (F ≠ []))]) ∧ Below w.heap.size w w' := by
  have hx := sidx_any (mantT I F) w
  rw [point_at hI] at hx
  have hs := txt_size (mantT I F)
  by_cases h : F = []
  · subst h
    rw [if_pos rfl] at hx
    have hm : mantT I [] = I := by simp [mantT, fracT]
    have ht : (⟨#[]⟩ : ByteArray) = txt [] := rfl
    rw [hm] at hx hs ⊢
    clear hm
    go_enter Tryz.func130, Tryz.ntmps130
    go_wp2_with fail
    refine hx.mono ?_
    rintro e w1 ⟨rfl, rfl⟩
    go_wp2_with fail
    go_ret3
    exact ⟨rfl, Below.refl _ _⟩
  · rw [if_neg h] at hx
    have hm : mantT I F = I ++ (46 :: F) := by unfold mantT fracT; rw [if_neg h]
    have hlen : (mantT I F).length = I.length + (F.length + 1) := by rw [hm, List.length_append, List.length_cons]
    have s1 := slH (l := mantT I F) (z := (I.length : Int)) (k := I.length) rfl (by omega)
    have s2 := slL (l := mantT I F) (z := (I.length : Int) + 1) (k := I.length + 1) (by omega) (by omega)
    have e1 : (mantT I F).take I.length = I := by rw [hm, List.take_left]
    have e2 : (mantT I F).drop (I.length + 1) = F := by
      rw [hm, List.drop_append, List.drop_eq_nil_of_le (by omega), List.nil_append, show I.length + 1 - I.length = 1 by omega]
      rfl
    rw [e1] at s1
    rw [e2] at s2
    rw [decide_eq_true h]
    have hI0 : (0 : Int) ≤ (I.length : Int) := by omega
    have hw1 : IntKind.i64.wrap ((I.length : Int) + 1) = (I.length : Int) + 1 := IntWalk.i64_in _ (by omega)
    clear e1 e2 hm hlen
    generalize txt (mantT I F) = M at *
    go_enter Tryz.func130, Tryz.ntmps130
    go_wp2_with fail
    refine hx.mono ?_
    rintro e w1 ⟨rfl, rfl⟩
    go_wp2_with fail
    go_quiet (fail)
    all_goals go_wp2_with fail
    all_goals go_ret3
    all_goals exact ⟨rfl, below_drewN (Below.refl _ _) _⟩
set_option maxRecDepth 100000 in
theorem cut_any {I F : List UInt8} (hI : ∀ c ∈ I, dg c = true) (hl : (mantT I F).length < 1000000) {w : World} :
    Calls Tryz.prog 97 #[.string (txt (mantT I F)), .string ⟨#[46]⟩] w fun e w' => e = .returned (.tuple #[.string (txt I), .string (txt F), .bool (decide (F ≠ []))]) ∧ Below w.heap.size w w' := by
  have h := scut_any hI hl (w := w)
  generalize decide (F ≠ []) = b at *
  go_enter Tryz.func97, Tryz.ntmps97
  go_wp2_with fail
  refine h.mono ?_
  rintro e w1 ⟨rfl, k1⟩
  go_wp2_with fail
  go_ret3
  exact ⟨rfl, k1⟩
theorem trim_plus {s E : List UInt8} (hs : s = [] ∨ s = [43] ∨ s = [45]) (hE : ∀ c ∈ E, dg c = true) (h0 : E ≠ []) :
    Lib.trimPrefix (Lib.trimPrefix (s ++ E) [43]) [45] = E ∧ Lib.hasPrefix (Lib.trimPrefix (s ++ E) [43]) [45] = decide (s = [45]) := by
  obtain ⟨c, E', rfl⟩ := List.exists_cons_of_ne_nil h0
  have hc := dg_num (hE c (by simp))
  have h43 : (43 == c) = false := by
    rw [beq_eq_false_iff_ne]
    rintro rfl
    revert hc
    decide
  have h45 : (45 == c) = false := by
    rw [beq_eq_false_iff_ne]
    rintro rfl
    revert hc
    decide
  have p43 : Lib.hasPrefix (c :: E') [43] = false := by
    show List.isPrefixOf [43] (c :: E') = false
    simp [List.isPrefixOf, h43]
  have p45 : Lib.hasPrefix (c :: E') [45] = false := by
    show List.isPrefixOf [45] (c :: E') = false
    simp [List.isPrefixOf, h45]
  have t43 : Lib.trimPrefix (c :: E') [43] = c :: E' := by unfold Lib.trimPrefix; rw [p43]; rfl
  have t45 : Lib.trimPrefix (c :: E') [45] = c :: E' := by unfold Lib.trimPrefix; rw [p45]; rfl
  rcases hs with rfl | rfl | rfl
  · rw [List.nil_append, t43]
    exact ⟨t45, p45⟩
  · rw [show Lib.trimPrefix ([43] ++ c :: E') [43] = c :: E' from rfl]
    exact ⟨t45, p45⟩
  · exact ⟨rfl, rfl⟩
theorem powN_take {E : List UInt8} {k : Nat} (h : k < E.length) : powN (E.take (k + 1)) = min (10 * powN (E.take k) + (nb E k - 48)) capT := by
  rw [List.take_succ_eq_append_getElem h, powN_snoc, nb_get h]
set_option maxRecDepth 100000 in
set_option maxHeartbeats 1000000 in
theorem power_any {w : World} {s E : List UInt8} (hs : s = [] ∨ s = [43] ∨ s = [45]) (hE : ∀ c ∈ E, dg c = true) (h0 : E ≠ []) (hl : E.length < 1000000) :
    Calls Tryz.prog 129 #[.string (txt (s ++ E))] w fun e w' => e = .returned (.int .i64 (powZ s E)) ∧ w' = w := by
  have h1 := trimPre_any (s ++ E) w
  have h2 := cutPre_any (Lib.trimPrefix (s ++ E) [43]) w
  obtain ⟨e1, e2⟩ := trim_plus hs hE h0
  rw [e1, e2] at h2
  have hz := txt_size E
  clear e1 e2
  have hcap : ∀ k, powN (E.take k) ≤ 1099511627776 := fun k => powN_le _
  have hall : powN (E.take E.length) = powN E := by rw [List.take_length]
  have hres : powZ s E = if s = [45] then -(powN E : Int) else powN E := rfl
  have HRES := Lib.hid hres
  clear hres
  go_enter Tryz.func129, Tryz.ntmps129
  go_wp2_with fail
  refine h1.mono ?_
  rintro e w1 ⟨rfl, rfl⟩
  go_wp2_with fail
  refine h2.mono ?_
  rintro e w1 ⟨rfl, rfl⟩
  clear h1 h2
  go_wp2_with fail
  go_loopw [5, 15] (fun n i wr => ∃ k : Nat, n = .int .i64 (powN (E.take k)) ∧ i = .int .i64 k ∧ k ≤ E.length ∧ wr = w1) (fun _ i _ => E.length - (intOf i).toNat)
  case atStart => exact ⟨0, rfl, rfl, Nat.zero_le _, rfl⟩
  case round =>
    obtain ⟨k, rfl, rfl, hk, rfl⟩ := hrel
    by_cases hlt : k < E.length
    · have hlt' : (k : Int) < (E.length : Int) := by omega
      have i1 := idx hlt
      have hd := (digAt_dg hlt).2 (hE _ (List.getElem_mem hlt))
      unfold DigAt at hd
      have hp := powN_take hlt
      have hc1 := hcap k
      have hcc : capT = 1099511627776 := rfl
      rw [hcc] at hp
      generalize powN (E.take k) = p at *
      generalize hq : powN (E.take (k + 1)) = q at *
      generalize nb E k = x at *
      have m1 : IntKind.u8.wrap ((x : Int) - 48) = (x : Int) - 48 := IntWalk.u8_in _ (by omega)
      have m3 : min (wrap64 (10 * (p : Int) + wrap64 ((x : Int) - 48))) 1099511627776 = (q : Int) := by
        rw [IntWalk.wrap64_in ((x : Int) - 48) (by omega), IntWalk.wrap64_in _ (by omega)]
        omega
      have M3 := Lib.hid m3
      clear m3
      have HQ := Lib.hid hq
      clear hq hp hd
      go_wp2_with fail
      go_roundw
      case rel => exact ⟨k + 1, by rw [HQ.out, M3.out], by go_num, by omega, by first | trivial | rfl⟩
      case measure => simp [intOf]; omega
    · obtain rfl : E.length = k := by omega
      have hres := HRES.out
      rw [hall]
      by_cases h45 : s = [45]
      · rw [if_pos h45] at hres
        have HR := Lib.hid hres
        rw [decide_eq_true h45]
        have hn : IntKind.i64.wrap (-(powN E : Int)) = -(powN E : Int) := IntWalk.i64_in _ (by have := powN_le E; have hcc : capT = 1099511627776 := rfl; omega)
        clear h45 hall hcap hres HRES
        go_wp2_with fail
        go_ret
        rw [HR.out]
        exact ⟨rfl, rfl⟩
      · rw [if_neg h45] at hres
        have HR := Lib.hid hres
        rw [decide_eq_false h45]
        clear h45 hall hcap hres HRES
        go_wp2_with fail
        go_ret
        rw [HR.out]
        exact ⟨rfl, rfl⟩
theorem expT_len (x : Option (UInt8 × List UInt8 × List UInt8)) (I F : List UInt8) : (mantT I F).length + (expT x).length = (rest I F x).length := by unfold mantT rest; simp; omega
set_option maxRecDepth 100000 in
set_option maxHeartbeats 1000000 in
theorem cutPower_any {w : World} {I F : List UInt8} {x : Option (UInt8 × List UInt8 × List UInt8)} (h : Parts I F x) (hl : (rest I F x).length < 1000000) :
    Calls Tryz.prog 96 #[.string (txt (rest I F x))] w fun e w' => e = .returned (.tuple #[.string (txt (mantT I F)), .int .i64 (expZ x)]) ∧ Below w.heap.size w w' := by
  have hx := idxAny_any hl (rest_asc h) w
  have hlen := expT_len x I F
  have hs := txt_size (rest I F x)
  match x, h with
  | none, h =>
    obtain ⟨e1, e2⟩ := e_none h
    rw [e1] at hx hs ⊢
    rw [e2] at hx
    have hz : expZ none = 0 := rfl
    rw [hz]
    clear e1 e2 hlen
    generalize txt (mantT I F) = M at *
    go_enter Tryz.func96, Tryz.ntmps96
    go_wp2_with fail
    refine hx.mono ?_
    rintro e w1 ⟨rfl, k1⟩
    go_wp2_with fail
    go_ret2
    exact ⟨rfl, k1⟩
  | some (m, s, E), h =>
    obtain ⟨_, hss, hE0, hE⟩ := h.mark m s E rfl
    obtain ⟨e1, e2⟩ := e_some h
    rw [e1] at hx
    have hz : expZ (some (m, s, E)) = powZ s E := rfl
    rw [hz]
    have hl2 : (mantT I F).length + (1 + (s.length + E.length)) = (rest I F (some (m, s, E))).length := by rw [e2]; simp; omega
    have s1 := slH (l := rest I F (some (m, s, E))) (z := ((mantT I F).length : Int)) (k := (mantT I F).length) rfl (by omega)
    have s2 := slL (l := rest I F (some (m, s, E))) (z := ((mantT I F).length : Int) + 1) (k := (mantT I F).length + 1) (by omega) (by omega)
    have t1 : (rest I F (some (m, s, E))).take (mantT I F).length = mantT I F := by rw [e2, List.take_left]
    have t2 : (rest I F (some (m, s, E))).drop ((mantT I F).length + 1) = s ++ E := by
      rw [e2, List.drop_append, List.drop_eq_nil_of_le (by omega), List.nil_append, show (mantT I F).length + 1 - (mantT I F).length = 1 by omega]
      rfl
    rw [t1] at s1
    rw [t2] at s2
    have hp := fun wx => power_any (w := wx) hss hE hE0 (by omega)
    have hw1 : IntKind.i64.wrap (((mantT I F).length : Int) + 1) = ((mantT I F).length : Int) + 1 := IntWalk.i64_in _ (by omega)
    have h0 : decide (((mantT I F).length : Int) < 0) = false := by simp
    clear t1 t2 e1 e2 hz hlen hl2
    generalize powZ s E = pz at *
    generalize txt (rest I F (some (m, s, E))) = M at *
    generalize txt (s ++ E) = SE at *
    generalize txt (mantT I F) = MT at *
    generalize (mantT I F).length = ml at *
    go_enter Tryz.func96, Tryz.ntmps96
    go_wp2_with fail
    refine hx.mono ?_
    rintro e w1 ⟨rfl, k1⟩
    go_wp2_with fail
    go_region_held3 (fun wx => Below w.heap.size w wx)
      (first | exact below_drewN k1 1 | assumption)
      (first | (go_at_call 129; refine (hp _).mono ?_; rintro e wx ⟨rfl, rfl⟩))
    go_wp2_with fail
    go_ret2
    exact ⟨rfl, by assumption⟩
end Go.Proofs.YtlfbnfphocpgeaaGreatDoor.Num
namespace Go.Proofs.YtlfbnfphocpgeaaGreatDoor.Num
open Go.RowKit Kit
theorem powZ_small {I F : List UInt8} {x : Option (UInt8 × List UInt8 × List UInt8)} (_h : Parts I F x) : -1099511627776 ≤ expZ x ∧ expZ x ≤ 1099511627776 := by
  have hcc : capT = 1099511627776 := rfl
  match x with
  | none => exact ⟨by decide, by decide⟩
  | some (m, s, E) =>
    have := powN_le E
    show -1099511627776 ≤ powZ s E ∧ powZ s E ≤ 1099511627776
    unfold powZ
    split <;> omega
theorem toList_txt (l : List UInt8) : (txt l).toList = l := by unfold txt; rw [ByteArray.toList_mk]
set_option maxRecDepth 100000 in
set_option maxHeartbeats 2000000 in
theorem nparse_tab {w : World} (ho : Tab w) {l : List UInt8} (hl : l.length < 100000) :
    Calls Tryz.prog 67 #[.string (txt l)] w fun e w' => e = .returned (parseV (parse l)) ∧ Below w.heap.size w w' := by
  have hs := txt_size l
  have ht0 : (⟨#[]⟩ : ByteArray) = txt [] := rfl
  have hA := World.alloc_heap_new w (.cells #[.bool false, .string (txt []), .int .i64 0] 25)
  have bA : Below w.heap.size w (w.alloc (.cells #[.bool false, .string (txt []), .int .i64 0] 25)) := (Below.refl _ w).alloc (Nat.le_refl _) _
  have q0 := cell_of hA 0
  have q1 := cell_of hA 1
  have q2 := cell_of hA 2
  have qf := free_of hA
  by_cases h0 : l = []
  · subst h0
    have hp : parse [] = (zero, 3) := rfl
    have he := toList_txt []
    simp only [List.length_nil] at hs
    rw [hp]
    clear hp hA ho
    go_enter Tryz.func67, Tryz.ntmps67
    go_wp2_with fail
    refine bodyPost_ret (v := parseV (zero, 3)) (by simp [results, Tryz.results67, go_sem, parseV, numV, zero, *]) rfl ⟨rfl, by first | exact bA | exact below_set3 bA _ _ _⟩
  · have he2 : ((txt l).toList == (txt []).toList) = false := by rw [toList_txt, toList_txt]; simp [h0]
    have hsc := nscan_tab (ho.below bA) hl
    by_cases h1 : scan l = l.length
    · obtain ⟨n, I, F, x, hP, rfl⟩ := parts_of h1 h0
      have hp := parse_prog n hP hl
      obtain ⟨a1, a2⟩ := cut_neg n hP
      obtain ⟨z1, z2⟩ := powZ_small hP
      have hlt : (text n I F x).length = (negT n).length + (rest I F x).length := by unfold text rest; rw [List.length_append]
      have hlm := expT_len x I F
      have hlI : (mantT I F).length = I.length + (fracT F).length := by unfold mantT; rw [List.length_append]
      have hlF : F.length ≤ (fracT F).length := by unfold fracT; split <;> simp_all
      have c1 := fun wx => cutPre_any (text n I F x) wx
      simp only [a1, a2] at c1
      have c2 := fun wx => cutPower_any (w := wx) hP (by omega)
      have c3 := fun wx => cut_any (w := wx) (F := F) hP.whole (by omega)
      have hadd : txt I ++ txt F = txt (I ++ F) := add_txt I F
      have hfit : ¬ (9223372036854775807 < (txt I).size + (txt F).size) := add_fit (by omega) (by omega)
      have c4 := fun wx => trimL_any (I ++ F) wx
      have hlD : ((I ++ F).dropWhile z48).length ≤ I.length + F.length := by rw [← List.length_append]; exact (List.dropWhile_sublist _).length_le
      have c5 := fun wx => trimR_any (l := (I ++ F).dropWhile z48) (by omega) wx (expZ x - F.length)
      obtain ⟨y1, y2⟩ := strip_len ((I ++ F).dropWhile z48) (expZ x - F.length)
      have hn : norm n ((I ++ F).dropWhile z48) (expZ x - F.length) = if (strip ((I ++ F).dropWhile z48) (expZ x - F.length)).1 = [] then (zero, 0) else if Right ⟨n, (strip ((I ++ F).dropWhile z48) (expZ x - F.length)).1, (strip ((I ++ F).dropWhile z48) (expZ x - F.length)).2⟩ then (⟨n, (strip ((I ++ F).dropWhile z48) (expZ x - F.length)).1, (strip ((I ++ F).dropWhile z48) (expZ x - F.length)).2⟩, 0) else (zero, 4) := rfl
      rw [← hp] at hn
      clear hp a1 a2
      rw [h1] at hsc
      have sF := txt_size F
      have sD := txt_size ((I ++ F).dropWhile z48)
      have sS := txt_size (strip ((I ++ F).dropWhile z48) (expZ x - F.length)).1
      generalize parse (text n I F x) = pr at *
      generalize decide (F ≠ []) = fb at *
      generalize (strip ((I ++ F).dropWhile z48) (expZ x - F.length)).2 = e3 at *
      generalize (strip ((I ++ F).dropWhile z48) (expZ x - F.length)).1 = d3 at *
      generalize (I ++ F).dropWhile z48 = D at *
      generalize expZ x = pz at *
      generalize (text n I F x) = l at *
      have hll : decide ((l.length : Int) < (l.length : Int)) = false := by simp
      have hn1 : IntKind.i64.wrap (pz - (F.length : Int)) = pz - (F.length : Int) := IntWalk.i64_in _ (by omega)
      have hn2 : IntKind.i64.wrap (pz - (F.length : Int) + (D.length : Int)) = pz - (F.length : Int) + (D.length : Int) := IntWalk.i64_in _ (by omega)
      have hn3 : IntKind.i64.wrap (pz - (F.length : Int) + (D.length : Int) - (d3.length : Int)) = pz - (F.length : Int) + (D.length : Int) - (d3.length : Int) := IntWalk.i64_in _ (by omega)
      have hd3 : d3.length < 1000000 := by omega
      subst y2
      have HN := Lib.hid hn
      have HL1 := Lib.hid hlt
      clear hn h0 h1 ho hlt hlm hlI
      go_enter Tryz.func67, Tryz.ntmps67
      go_wp2_with fail
      refine hsc.mono ?_
      rintro e w1 ⟨rfl, k1⟩
      have hA1 := (k1.block _ (lt_of_heap hA)).trans hA
      have b1 := bA.trans (k1.mono bA.size)
      clear q0 q1 q2 qf hA bA k1 hsc
      go_wp2_with fail
      refine (c1 _).mono ?_
      rintro e w1 ⟨rfl, rfl⟩
      go_wp2_with fail
      refine (c2 _).mono ?_
      rintro e w2 ⟨rfl, k2⟩
      have hA2 := (k2.block _ (lt_of_heap hA1)).trans hA1
      have b2 := b1.trans (k2.mono b1.size)
      clear hA1 b1 k2
      go_wp2_with fail
      refine (c3 _).mono ?_
      rintro e w3 ⟨rfl, k3⟩
      have hA3 := (k3.block _ (lt_of_heap hA2)).trans hA2
      have b3 := b2.trans (k3.mono b2.size)
      clear hA2 b2 k3
      go_wp2_with fail
      refine (c4 _).mono ?_
      rintro e w3 ⟨rfl, rfl⟩
      go_wp2_with fail
      refine (c5 _).mono ?_
      rintro e w3 ⟨rfl, rfl⟩
      clear c1 c2 c3 c4 c5
      have hn := HN.out
      have r0 := cell_of hA3 0
      have r1 := cell_of hA3 1
      have r2 := cell_of hA3 2
      have rf := free_of hA3
      by_cases hd : d3 = []
      · rw [if_pos hd] at hn
        have HR := Lib.hid hn
        subst hd
        have he := toList_txt []
        clear hn HN
        go_wp2_with fail
        refine bodyPost_ret (v := parseV (zero, 0)) (by simp [results, Tryz.results67, go_sem, parseV, numV, zero, *]) rfl ⟨by rw [HR.out], by first | exact b3 | exact below_set3 b3 _ _ _⟩
      · rw [if_neg hd] at hn
        have hd2 : ((txt d3).toList == (txt []).toList) = false := by rw [toList_txt, toList_txt]; simp [hd]
        have cc := fun wx => clone_any (l := d3) hd3 (w := wx)
        have hrr := fun wx => nright_all (w := wx) (n := ⟨n, d3, pz - (F.length : Int) + (D.length : Int) - (d3.length : Int)⟩) (by dsimp only; omega)
        simp only [numV] at hrr
        clear HN hd
        go_wp2_with fail
        refine (cc _).mono ?_
        rintro e w4 ⟨rfl, k4⟩
        have hA4 := (k4.block _ (lt_of_heap hA3)).trans hA3
        have b4 := b3.trans (k4.mono b3.size)
        clear hA3 b3 k4 r0 r1 r2 rf cc
        have hA5 := new_of hA4 (.cells #[.bool n, .string (txt d3), .int .i64 (pz - (F.length : Int) + (D.length : Int) - (d3.length : Int))] 25)
        have hB5 := World.alloc_heap_new w4 (.cells #[.bool n, .string (txt d3), .int .i64 (pz - (F.length : Int) + (D.length : Int) - (d3.length : Int))] 25)
        have b5 := b4.alloc b4.size (.cells #[.bool n, .string (txt d3), .int .i64 (pz - (F.length : Int) + (D.length : Int) - (d3.length : Int))] 25)
        have hl4 := lt_of_heap hA4
        obtain ⟨ez, hez⟩ : ∃ ez, pz - (F.length : Int) + (D.length : Int) - (d3.length : Int) = ez := ⟨_, rfl⟩
        rw [hez] at hrr hA5 hB5 b5 hn3 hn
        obtain ⟨g, hg⟩ : ∃ g, w4.heap.size = g := ⟨_, rfl⟩
        go_wp2_with fail
        refine (hrr _).mono ?_
        rintro e w6 ⟨rfl, k6⟩
        have hA6 := (k6.block _ (lt_of_heap hA5)).trans hA5
        have hB6 := (k6.block _ (lt_of_heap hB5)).trans hB5
        have b6 := b5.trans (k6.mono b5.size)
        rw [hg] at hB6
        have r0 := cell_of hA6 0
        have r1 := cell_of hA6 1
        have r2 := cell_of hA6 2
        have rf := free_of hA6
        have y0 := cell_of hB6 0
        have y1 := cell_of hB6 1
        have y2 := cell_of hB6 2
        clear hA4 hA5 hB5 b5 b4 k6 hA6 hB6 hez hn1 hn2 hn3
        clear hg
        by_cases hR : Right ⟨n, d3, ez⟩
        · rw [if_pos hR] at hn
          rw [decide_eq_true hR]
          have HR := Lib.hid hn
          clear hR hn
          go_wp2_with fail
          refine bodyPost_ret (v := parseV (⟨n, d3, ez⟩, 0)) (by simp [results, Tryz.results67, go_sem, parseV, numV, *]) rfl ⟨by rw [HR.out], below_set3 b6 _ _ _⟩
        · rw [if_neg hR] at hn
          rw [decide_eq_false hR]
          have HR := Lib.hid hn
          clear hR hn
          go_wp2_with fail
          refine bodyPost_ret (v := parseV (zero, 4)) (by simp [results, Tryz.results67, go_sem, parseV, numV, zero, *]) rfl ⟨by rw [HR.out], below_set3 b6 _ _ _⟩
    · have h1' : (scan l : Int) < (l.length : Int) := by
        have := scan_le l
        omega
      have hp : parse l = (zero, 3) := by unfold parse; rw [if_pos (.inr h1)]
      rw [hp]
      generalize scan l = sc at *
      clear hp h1 ho
      go_enter Tryz.func67, Tryz.ntmps67
      go_wp2_with fail
      refine hsc.mono ?_
      rintro e w1 ⟨rfl, k1⟩
      have hA1 := (k1.block _ (lt_of_heap hA)).trans hA
      have r0 := cell_of hA1 0
      have r1 := cell_of hA1 1
      have r2 := cell_of hA1 2
      have rf := free_of hA1
      have b1 := bA.trans (k1.mono bA.size)
      clear q0 q1 q2 qf hA hA1 bA k1
      go_wp2_with fail
      refine bodyPost_ret (v := parseV (zero, 3)) (by simp [results, Tryz.results67, go_sem, parseV, numV, zero, *]) rfl ⟨rfl, by first | exact b1 | exact below_set3 b1 _ _ _⟩
end Go.Proofs.YtlfbnfphocpgeaaGreatDoor.Num
namespace Go.Proofs.YtlfbnfphocpgeaaGreatDoor.Jdec
open Go.RowKit Kit Txt
open Utf (nb)
open Tre (Val HoldF zeroV)
theorem jscan_any {w : World} (ht : Num.Tab w) {l : List UInt8} (hl : l.length < 100000) : Calls Tryz.prog 66 #[.string (txt l)] w fun e w' => e = .returned (.int .i64 (Num.scan l)) ∧ Below w.heap.size w w' := Num.nscan_tab ht hl
theorem jparse_any {w : World} (ht : Num.Tab w) {l : List UInt8} (hl : l.length < 100000) : Calls Tryz.prog 67 #[.string (txt l)] w fun e w' => e = .returned (.tuple #[.agg #[.bool (Num.parse l).1.neg, .string (txt (Num.parse l).1.dig), .int .i64 (Num.parse l).1.exp], .int .i64 ((Num.parse l).2 : Int)]) ∧ Below w.heap.size w w' := Num.nparse_tab ht hl
set_option maxRecDepth 100000 in
set_option maxHeartbeats 8000000 in
theorem mnumber_any {w : World} {R : Nat} {s : List UInt8} {q : Nat} {o : Int} {u : Value} (hs : s.length < 100000) (hq : q ≤ s.length) (ht : Num.Tab w) (h : Rdr R s q o u w) :
    Calls Tryz.prog 43 #[rp R] w (Told R s u o w (number (s.drop q))) := by
  have hz := txt_size s
  have hR := lt_of_heap h
  obtain ⟨c0, c1, c2, c3⟩ := four h
  have hB := World.alloc_heap_new w (.cells #[.int .i64 0, .bool false, .bool false, .string ⟨#[]⟩, .int .i64 0, .string ⟨#[]⟩, .slice none 0 0, .slice none 0 0] 29)
  have bA : Below w.heap.size w (w.alloc (.cells #[.int .i64 0, .bool false, .bool false, .string ⟨#[]⟩, .int .i64 0, .string ⟨#[]⟩, .slice none 0 0, .slice none 0 0] 29)) := (Below.refl _ w).alloc (Nat.le_refl _) _
  have hsl := slL (l := s) (z := (q : Int)) rfl hq
  have hdl : (s.drop q).length < 100000 := by rw [List.length_drop]; omega
  have hdq := drop_at hq
  have hsc := fun wx (hb : Below w.heap.size w wx) => jscan_any (ht.below hb) hdl
  have hsn : Num.scan (s.drop q) ≤ (s.drop q).length := num_le _
  have hdz := List.length_drop (l := s) (i := q)
  have hnum : number (s.drop q) = number (s.drop q) := rfl
  conv at hnum => rhs; unfold number
  have hpa := fun wx (hb : Below w.heap.size w wx) => jparse_any (ht.below hb) (l := (s.drop q).take (Num.scan (s.drop q))) (by rw [List.length_take]; omega)
  have hdd : (s.drop q).drop (Num.scan (s.drop q)) = s.drop (q + Num.scan (s.drop q)) := by rw [List.drop_drop]
  rw [hdd] at hnum
  have htk := fun wx => slH (l := s.drop q) (z := ((Num.scan (s.drop q) : Nat) : Int)) rfl hsn wx
  have hzl := txt_size (s.drop q)
  generalize hl : s.drop q = l at *
  generalize Num.scan l = n at *
  generalize hgn : number l = g at *
  have hR8 := fun (B : Nat) (wx : World) (x : Num.Dec) => flat_hold 3 false x [] B wx
  unfold rp
  by_cases hn : n = 0
  · subst hn
    rw [if_pos rfl] at hnum
    by_cases h1 : l.length = 1
    · rw [if_pos h1] at hnum
      have h1' : ((l.length : Int) == 1) = true := by simp [h1]
      have HN := Lib.hid hnum
      have HQ := Lib.hid hdq
      have HS := Lib.hid hsc
      have H := Lib.hid h
      clear hnum hdq hsc hpa htk hdd hdl hsn h1 hl hgn ht h hR8 hdz
      go_enter Tryz.func43, Tryz.ntmps43
      go_wp2_with fail
      go_quiet (fail)
      have bq := below_drewN bA nq
      go_wp2_with fail
      refine (HS.out _ bq).mono ?_
      rintro e w1 ⟨rfl, k1⟩
      have b1 := bq.trans (k1.mono bq.size)
      have hB1 := (k1.block _ (by show w.heap.size < (w.alloc _).heap.size; simp)).trans hB
      have hB2 := store8 hB1 (.int .i64 0) (.bool false) (.bool false) (.string ⟨#[]⟩) (.int .i64 0) (.string ⟨#[]⟩) (.slice none 0 0) (.slice none 0 0)
      have k3 := grown8 w1 w.heap.size (.int .i64 0) (.bool false) (.bool false) (.string ⟨#[]⟩) (.int .i64 0) (.string ⟨#[]⟩) (.slice none 0 0) (.slice none 0 0)
      have g3 := grown_on (below_grown (row := some R) b1) k3 (Nat.le_refl _)
      have r3 := (H.out.below b1).kept k3 (by simp; omega)
      obtain ⟨e0, e1, e2, e3, e4, e5, e6, e7⟩ := eight hB1
      obtain ⟨f0, f1, f2, f3, f4, f5, f6, f7⟩ := free8 hB1
      have HB := Lib.hid hB2
      have HG := Lib.hid g3
      have HR := Lib.hid r3
      clear hB2 g3 r3 k3
      go_wp2_with fail
      obtain ⟨d0, d1, d2, d3, d4, d5, d6, d7⟩ := eight HB.out
      refine bodyPost_ret (v := .tuple #[zeroV, .int .i64 2]) (by simp [results, Tryz.results43, go_sem, zeroV, d0, d1, d2, d3, d4, d5, d6, d7]) rfl ?_
      exact .no (k := 2) HN.out HQ.out HG.out HR.out
    · rw [if_neg h1] at hnum
      have h1' : ((l.length : Int) == 1) = false := by simp; omega
      have HN := Lib.hid hnum
      have HQ := Lib.hid hdq
      have HS := Lib.hid hsc
      have H := Lib.hid h
      clear hnum hdq hsc hpa htk hdd hdl hsn h1 hl hgn ht h hR8 hdz
      go_enter Tryz.func43, Tryz.ntmps43
      go_wp2_with fail
      go_quiet (fail)
      have bq := below_drewN bA nq
      go_wp2_with fail
      refine (HS.out _ bq).mono ?_
      rintro e w1 ⟨rfl, k1⟩
      have b1 := bq.trans (k1.mono bq.size)
      have hB1 := (k1.block _ (by show w.heap.size < (w.alloc _).heap.size; simp)).trans hB
      have hB2 := store8 hB1 (.int .i64 0) (.bool false) (.bool false) (.string ⟨#[]⟩) (.int .i64 0) (.string ⟨#[]⟩) (.slice none 0 0) (.slice none 0 0)
      have k3 := grown8 w1 w.heap.size (.int .i64 0) (.bool false) (.bool false) (.string ⟨#[]⟩) (.int .i64 0) (.string ⟨#[]⟩) (.slice none 0 0) (.slice none 0 0)
      have g3 := grown_on (below_grown (row := some R) b1) k3 (Nat.le_refl _)
      have r3 := (H.out.below b1).kept k3 (by simp; omega)
      obtain ⟨e0, e1, e2, e3, e4, e5, e6, e7⟩ := eight hB1
      obtain ⟨f0, f1, f2, f3, f4, f5, f6, f7⟩ := free8 hB1
      have HB := Lib.hid hB2
      have HG := Lib.hid g3
      have HR := Lib.hid r3
      clear hB2 g3 r3 k3
      go_wp2_with fail
      obtain ⟨d0, d1, d2, d3, d4, d5, d6, d7⟩ := eight HB.out
      refine bodyPost_ret (v := .tuple #[zeroV, .int .i64 3]) (by simp [results, Tryz.results43, go_sem, zeroV, d0, d1, d2, d3, d4, d5, d6, d7]) rfl ?_
      exact .no (k := 3) HN.out HQ.out HG.out HR.out
  · rw [if_neg hn] at hnum
    have hn' : (((n : Nat) : Int) == 0) = false := by simpa using hn
    generalize hx : (Num.parse (l.take n)).1 = x at *
    generalize he : (Num.parse (l.take n)).2 = ee at *
    by_cases h0 : ee = 0
    · subst h0
      rw [if_neg (by simp)] at hnum
      have hwq : IntKind.i64.wrap ((q : Int) + (n : Int)) = (q : Int) + (n : Int) := by
        simp only [IntKind.wrap, IntKind.signed, IntKind.bits]; simp; omega
      have hqn : q + n ≤ s.length := by omega
      have hdq2 := drop_at hqn
      have HN := Lib.hid hnum
      have HQ := Lib.hid hdq2
      have HS := Lib.hid hsc
      have HP := Lib.hid hpa
      have H := Lib.hid h
      have HF := Lib.hid (fun B wx => hR8 B wx x)
      clear hnum hdq hdq2 hsc hpa hdd hdl hn hl hgn ht h hR8 hdz hx he
      go_enter Tryz.func43, Tryz.ntmps43
      go_wp2_with fail
      go_quiet (fail)
      have bq := below_drewN bA nq
      go_wp2_with fail
      refine (HS.out _ bq).mono ?_
      rintro e w1 ⟨rfl, k1⟩
      have b1 := bq.trans (k1.mono bq.size)
      have hB1 := (k1.block _ (by show w.heap.size < (w.alloc _).heap.size; simp)).trans hB
      go_wp2_with fail
      refine (HP.out _ b1).mono ?_
      rintro e w2 ⟨rfl, k2⟩
      have b2 := b1.trans (k2.mono b1.size)
      have hB2 := (k2.block _ (lt_of_heap hB1)).trans hB1
      have hlt2 := lt_of_heap hB2
      have hR2 : R < w2.heap.size := by omega
      have hne : ¬ w.heap.size = R := by omega
      obtain ⟨c0, c1, c2, c3⟩ := four (H.out.below b2)
      have hf := free_of (H.out.below b2) 1
      obtain ⟨e0, e1, e2, e3, e4, e5, e6, e7⟩ := eight hB2
      obtain ⟨f0, f1, f2, f3, f4, f5, f6, f7⟩ := free8 hB2
      have r1 : Rdr R s (q + n) o u (w2.setCell ⟨R, 1, none⟩ (.int .i64 ((q : Int) + (n : Int)))) := (H.out.below b2).goes (q + n)
      have k3 := grown_cell w2 R 1 (.int .i64 ((q : Int) + (n : Int)))
      have hB3 := kept_of hB2 k3 hne
      have hB4 := new_of (store8 hB3 (.int .i64 3) (.bool false) (.bool x.neg) (.string (txt x.dig)) (.int .i64 x.exp) (.string ⟨#[]⟩) (.slice none 0 0) (.slice none 0 0)) (.cells #[.bool x.neg, .string (txt x.dig), .int .i64 x.exp] 25)
      have k4 := grown8 (w2.setCell ⟨R, 1, none⟩ (.int .i64 ((q : Int) + (n : Int)))) w.heap.size (.int .i64 3) (.bool false) (.bool x.neg) (.string (txt x.dig)) (.int .i64 x.exp) (.string ⟨#[]⟩) (.slice none 0 0) (.slice none 0 0)
      have g5 := grown_alloc (grown_on (grown_trans (below_grown (row := some R) b2) k3) k4 (Nat.le_refl _)) (.cells #[.bool x.neg, .string (txt x.dig), .int .i64 x.exp] 25)
      have r5 := (r1.kept k4 (by simp; omega)).below ((Below.refl _ _).alloc (Nat.le_refl _) (.cells #[.bool x.neg, .string (txt x.dig), .int .i64 x.exp] 25))
      have HB := Lib.hid hB4
      have HG := Lib.hid g5
      have HR := Lib.hid r5
      clear hB1 hB hB2 hB3 hB4 k3 k4 g5 r5 r1
      go_wp2_with fail
      obtain ⟨d0, d1, d2, d3, d4, d5, d6, d7⟩ := eight HB.out
      refine bodyPost_ret (v := .tuple #[.agg #[.int .i64 3, .bool false, .bool x.neg, .string (txt x.dig), .int .i64 x.exp, .string ⟨#[]⟩, .slice none 0 0, .slice none 0 0], .int .i64 0]) (by simp [results, Tryz.results43, go_sem, d0, d1, d2, d3, d4, d5, d6, d7]) rfl ?_
      exact .ok HN.out HQ.out HG.out (HF.out _ _) HR.out
    · rw [if_pos h0] at hnum
      have h0' : (((ee : Nat) : Int) != 0) = true := by simpa using h0
      have HN := Lib.hid hnum
      have HQ := Lib.hid hdq
      have HS := Lib.hid hsc
      have HP := Lib.hid hpa
      have H := Lib.hid h
      clear hnum hdq hsc hpa hdd hdl hn hl hgn ht h hR8 hdz hx he
      go_enter Tryz.func43, Tryz.ntmps43
      go_wp2_with fail
      go_quiet (fail)
      have bq := below_drewN bA nq
      go_wp2_with fail
      refine (HS.out _ bq).mono ?_
      rintro e w1 ⟨rfl, k1⟩
      have b1 := bq.trans (k1.mono bq.size)
      have hB1 := (k1.block _ (by show w.heap.size < (w.alloc _).heap.size; simp)).trans hB
      go_wp2_with fail
      refine (HP.out _ b1).mono ?_
      rintro e w2 ⟨rfl, k2⟩
      have b2 := b1.trans (k2.mono b1.size)
      have hB2 := (k2.block _ (lt_of_heap hB1)).trans hB1
      have hlt2 := lt_of_heap hB2
      have hR2 : R < w2.heap.size := by omega
      have hne : ¬ w.heap.size = R := by omega
      obtain ⟨e0, e1, e2, e3, e4, e5, e6, e7⟩ := eight hB2
      obtain ⟨f0, f1, f2, f3, f4, f5, f6, f7⟩ := free8 hB2
      have hB4 := new_of (store8 hB2 (.int .i64 0) (.bool false) (.bool false) (.string ⟨#[]⟩) (.int .i64 0) (.string ⟨#[]⟩) (.slice none 0 0) (.slice none 0 0)) (.cells #[.bool x.neg, .string (txt x.dig), .int .i64 x.exp] 25)
      have k4 := grown8 w2 w.heap.size (.int .i64 0) (.bool false) (.bool false) (.string ⟨#[]⟩) (.int .i64 0) (.string ⟨#[]⟩) (.slice none 0 0) (.slice none 0 0)
      have g5 := grown_alloc (grown_on (below_grown (row := some R) b2) k4 (Nat.le_refl _)) (.cells #[.bool x.neg, .string (txt x.dig), .int .i64 x.exp] 25)
      have r5 := ((H.out.below b2).kept k4 (by simp; omega)).below ((Below.refl _ _).alloc (Nat.le_refl _) (.cells #[.bool x.neg, .string (txt x.dig), .int .i64 x.exp] 25))
      have HB := Lib.hid hB4
      have HG := Lib.hid g5
      have HR := Lib.hid r5
      clear hB1 hB hB2 hB4 k4 g5 r5
      go_wp2_with fail
      obtain ⟨d0, d1, d2, d3, d4, d5, d6, d7⟩ := eight HB.out
      refine bodyPost_ret (v := .tuple #[zeroV, .int .i64 ee]) (by simp [results, Tryz.results43, go_sem, zeroV, d0, d1, d2, d3, d4, d5, d6, d7]) rfl ?_
      exact .no HN.out HQ.out HG.out HR.out
end Go.Proofs.YtlfbnfphocpgeaaGreatDoor.Jdec
namespace Go.Proofs.YtlfbnfphocpgeaaGreatDoor.Jdec
open Go.RowKit Kit Txt
open Utf (nb)
open Tre (Val HoldF HoldP zeroV RowC RowT Seen none')
/-- What was there when a list, or an object, was begun stays for what is read in it. -/
theorem env_stays {G R B : Nat} {s : List UInt8} {q : Nat} {o : Int} {u : Value} {w0 : World} (h0 : Env G w0) (hr0 : Rdr R s q o u w0) (hB : B = w0.heap.size) : ∀ a b : World, Env G a → Off (fun i => i = R ∨ B + 2 ≤ i) a b → Env G b := fun a b ha k =>
  ha.off ⟨w0, h0, hr0⟩ k fun i hx hlt => hx.imp id fun h => ⟨w0, h0, by omega⟩
theorem made_hold {N : Option Nat} {B' S G : Nat} {a wf : World} {uk uv : Value} {keys : List (List UInt8)} {kids : List Val} {cs : List (List Value)} (obj : Bool) (hT : Tre.KsP (B' ≤ ·) a uk keys) (hC : RowC N B' a uv kids cs) (k : a.grownBy wf (some G)) (hG : G < B') (hS : S ≤ B') :
    HoldF S wf (.agg #[.int .i64 (if obj then 6 else 5), .bool false, .bool false, .string ⟨#[]⟩, .int .i64 0, .string ⟨#[]⟩, uk, uv]) (made obj keys kids) := by
  obtain ⟨a', c', rfl, h1, h2, h3⟩ := hC.holds
  have keep : ∀ g, B' ≤ g → g < a.heap.size → wf.heap[g]? = a.heap[g]? := fun g hg hlt => k.block g hlt (fun e => by cases e; omega)
  refine ⟨_, rfl, ?_⟩
  unfold made
  rw [Tre.HoldP]
  refine ⟨uk, a', c', rfl, (hT.keep k.size keep).mono (fun g hg _ => Nat.le_trans hS hg), h1, h2, h3.imp id ?_⟩
  rintro ⟨g, off, e, hg, hlt, hh⟩
  exact ⟨g, off, e, Nat.le_trans hS hg, Nat.lt_of_lt_of_le hlt k.size, Tre.HoldsP.mono (fun g hg _ => Nat.le_trans hS hg) kids (Tre.HoldsP.keep k.size keep kids hg hlt hh)⟩
theorem told_zero {R G q : Nat} {s : List UInt8} {u : Value} {o o' : Int} {w w1 : World} {g : Got Val} {r : List UInt8} {n : Nat} (hg : g = .no r n) (hq : s.length - r.length = q) (g1 : w.grownBy w1 (some R)) (hr : Rdr R s q o' u w1) {wf : World} (k : w1.grownBy wf (some G)) (hG : w.heap.size ≤ G) (hR : R < w.heap.size) : Told R s u o w g (.returned (.tuple #[zeroV, .int .i64 n])) wf :=
  .no hg hq (grown_on g1 k hG) (hr.kept k (by simp; omega))
set_option maxRecDepth 100000 in
set_option maxHeartbeats 16000000 in
theorem mlist_any {G R K : Nat} {s : List UInt8} {q : Nat} {o : Int} {u : Value} {w : World} (hs : s.length < 100000) (ho1 : 0 ≤ o) (ho2 : o ≤ 100) (hv : ValAt G R s u K (o + 1)) (h : Rdr R s q o u w) (hE : Env G w) (hq : q < s.length) (hhd : (s.drop q).head? = some 91) :
    Calls Tryz.prog 41 #[rp R] w (Told R s u o w (many (value K) (s.drop q))) := by
  have hR := lt_of_heap h
  obtain ⟨W, hW⟩ : ∃ W, ((w.alloc (.cells #[rp R] 80)).alloc (.cells #[.int .i64 0, .bool false, .bool false, .string ⟨#[]⟩, .int .i64 0, .string ⟨#[]⟩, .slice none 0 0, .slice none 0 0] 29)).alloc (.cells #[.int .i64 5, .bool false, .bool false, .string ⟨#[]⟩, .int .i64 0, .string ⟨#[]⟩, .slice none 0 0, .slice none 0 0] 29) = W := ⟨_, rfl⟩
  have bW : Below w.heap.size w W := by
    rw [← hW]
    exact (((Below.refl _ w).alloc (Nat.le_refl _) _).alloc (by simp) _).alloc (by simp; omega) _
  have zW : W.heap.size = w.heap.size + 3 := by rw [← hW]; simp
  have b0 : W.heap[w.heap.size]? = some (.cells #[rp R] 80 (0, 0)) := by rw [← hW]; exact new_of (new_of (World.alloc_heap_new _ _) _) _
  have b1 : W.heap[w.heap.size + 1]? = some (.cells #[.int .i64 0, .bool false, .bool false, .string ⟨#[]⟩, .int .i64 0, .string ⟨#[]⟩, .slice none 0 0, .slice none 0 0] 29 (0, 0)) := by
    rw [← hW]
    have := World.alloc_heap_new (w.alloc (.cells #[rp R] 80)) (.cells #[.int .i64 0, .bool false, .bool false, .string ⟨#[]⟩, .int .i64 0, .string ⟨#[]⟩, .slice none 0 0, .slice none 0 0] 29)
    rw [World.size_alloc] at this
    exact new_of this _
  have b2 : W.heap[w.heap.size + 2]? = some (.cells #[.int .i64 5, .bool false, .bool false, .string ⟨#[]⟩, .int .i64 0, .string ⟨#[]⟩, .slice none 0 0, .slice none 0 0] 29 (0, 0)) := by
    rw [← hW]
    have := World.alloc_heap_new ((w.alloc (.cells #[rp R] 80)).alloc (.cells #[.int .i64 0, .bool false, .bool false, .string ⟨#[]⟩, .int .i64 0, .string ⟨#[]⟩, .slice none 0 0, .slice none 0 0] 29)) (.cells #[.int .i64 5, .bool false, .bool false, .string ⟨#[]⟩, .int .i64 0, .string ⟨#[]⟩, .slice none 0 0, .slice none 0 0] 29)
    rw [World.size_alloc, World.size_alloc] at this
    exact this
  have hKI := env_stays hE h (B := w.heap.size) rfl
  have hst : StL w.heap.size R [] [] W := ⟨rfl, b0, b1, by omega, .slice none 0 0, [], b2, RowC.nil _ _ _⟩
  have hp := mparts_any (k := 64) (caps := #[.pointer (some ⟨w.heap.size, 0, none⟩), .pointer (some ⟨w.heap.size + 2, 0, none⟩)]) (x0 := 93) (w := W) (value_good K) (obj := false) (B := w.heap.size) (X := fun i => i = R ∨ w.heap.size + 2 ≤ i) (.inl rfl) (StL w.heap.size R) (Env G) hs ho1 ho2 bW.size hR hKI (fun keys kids a b hs hk => hs.keep hR hk)
    (fun wx p keys kids hh => mlist1_any hv hR hh.1 hh.2.1 hh.2.2.2.1 hh.2.2.2.2.1 hh.2.2.2.2.2.1) (fun wx => rfl) (h.below bW) hq hhd hst (hE.below bW) rfl
  have hgn : ∀ r n, many (value K) (s.drop q) = .no r n → n ≠ 0 := fun r n e => by
    have := many_good (value_good K) (l := s.drop q) (fun e => by rw [e] at hhd; cases hhd)
    rw [e] at this
    exact this.2
  generalize many (value K) (s.drop q) = g at *
  have HGN := Lib.hid hgn
  clear hgn
  have hc0 := cell_of b0 0
  have HW := Lib.hid hW
  have HP := Lib.hid hp
  have HBW := Lib.hid bW
  clear hW hp hst hv h hE b0 b2 bW hhd hq hKI
  unfold rp at HP HW hc0
  unfold rp
  go_enter Tryz.func41, Tryz.ntmps41
  go_wp2_with fail
  rw [HW.out]
  go_wp2_with fail
  refine HP.out.mono ?_
  rintro e w1 ⟨xP, hP⟩
  have hb1' := xP.at b1 (by omega)
  have g2 : w.grownBy w1 (some R) := ((Off.of_below HBW.out).trans xP).grown (fun i hi hx => by omega)
  cases g with
  | no r n =>
    obtain ⟨rfl, o', hr⟩ := hP
    have hn0 := HGN.out r n rfl
    have hne : (((n : Nat) : Int) != 0) = true := by simpa using hn0
    have hB2 := store8 hb1' (.int .i64 0) (.bool false) (.bool false) (.string ⟨#[]⟩) (.int .i64 0) (.string ⟨#[]⟩) (.slice none 0 0) (.slice none 0 0)
    have k3 := grown8 w1 (w.heap.size + 1) (.int .i64 0) (.bool false) (.bool false) (.string ⟨#[]⟩) (.int .i64 0) (.string ⟨#[]⟩) (.slice none 0 0) (.slice none 0 0)
    have hT := told_zero (o := o) (n := n) (g := Got.no r n) rfl rfl g2 hr k3 (by omega) hR
    obtain ⟨e0, e1, e2, e3, e4, e5, e6, e7⟩ := eight hb1'
    obtain ⟨f0, f1, f2, f3, f4, f5, f6, f7⟩ := free8 hb1'
    have HB := Lib.hid hB2
    have HT := Lib.hid hT
    clear hB2 hT k3 xP hr hn0 g2 hb1' b1
    go_wp2_with fail
    obtain ⟨d0, d1, d2, d3, d4, d5, d6, d7⟩ := eight HB.out
    refine bodyPost_ret (v := .tuple #[zeroV, .int .i64 n]) (by simp [results, Tryz.results41, go_sem, zeroV, d0, d1, d2, d3, d4, d5, d6, d7]) rfl ?_
    exact HT.out
  | ok v r =>
    obtain ⟨rfl, hr, keys, kids, hv, hst⟩ := hP
    obtain ⟨hk0, hb0', hb1'', hz', uu, cs, hb2', hrow⟩ := hst
    obtain ⟨av, cv, hav⟩ := Tre.rowC_slice hrow
    subst hk0; subst hav; subst hv
    have hB2 := store8 hb1' (.int .i64 5) (.bool false) (.bool false) (.string ⟨#[]⟩) (.int .i64 0) (.string ⟨#[]⟩) (.slice none 0 0) (.slice av kids.length cv)
    have k3 := grown8 w1 (w.heap.size + 1) (.int .i64 5) (.bool false) (.bool false) (.string ⟨#[]⟩) (.int .i64 0) (.string ⟨#[]⟩) (.slice none 0 0) (.slice av kids.length cv)
    have hH := made_hold (S := w.heap.size) false (keys := []) (uk := .slice none 0 0) ⟨none, 0, rfl, Nat.le_refl _, by omega, .inl rfl⟩ hrow k3 (by omega) (by omega)
    have hT : Told R s u o w (.ok (made false [] kids) r) (.returned (.tuple #[.agg #[.int .i64 5, .bool false, .bool false, .string ⟨#[]⟩, .int .i64 0, .string ⟨#[]⟩, .slice none 0 0, .slice av kids.length cv], .int .i64 0])) _ := .ok rfl rfl (grown_on g2 k3 (by omega)) hH (hr.kept k3 (by simp; omega))
    obtain ⟨e0, e1, e2, e3, e4, e5, e6, e7⟩ := eight hb1'
    obtain ⟨f0, f1, f2, f3, f4, f5, f6, f7⟩ := free8 hb1'
    obtain ⟨a0, a1, a2, a3, a4, a5, a6, a7⟩ := eight hb2'
    have HB := Lib.hid hB2
    have HT := Lib.hid hT
    clear hB2 hT k3 xP hr g2 hb1' b1 hH hrow hb2' hb1'' hb0' hz'
    generalize kids.length = nk at *
    go_wp2_with fail
    obtain ⟨d0, d1, d2, d3, d4, d5, d6, d7⟩ := eight HB.out
    refine bodyPost_ret (v := .tuple #[.agg #[.int .i64 5, .bool false, .bool false, .string ⟨#[]⟩, .int .i64 0, .string ⟨#[]⟩, .slice none 0 0, .slice av nk cv], .int .i64 0]) (by simp [results, Tryz.results41, go_sem, d0, d1, d2, d3, d4, d5, d6, d7]) rfl ?_
    exact HT.out
set_option maxRecDepth 100000 in
set_option maxHeartbeats 16000000 in
theorem mobject_any {G R K : Nat} {s : List UInt8} {q : Nat} {o : Int} {u : Value} {w : World} (hs : s.length < 100000) (ho1 : 0 ≤ o) (ho2 : o ≤ 100) (hv : ValAt G R s u K (o + 1)) (h : Rdr R s q o u w) (hE : Env G w) (hq : q < s.length) (hhd : (s.drop q).head? = some 123) :
    Calls Tryz.prog 40 #[rp R] w (Told R s u o w (many (value K) (s.drop q))) := by
  have hR := lt_of_heap h
  obtain ⟨W3, hW3⟩ : ∃ W3, ((w.alloc (.cells #[rp R] 80)).alloc (.cells #[.int .i64 0, .bool false, .bool false, .string ⟨#[]⟩, .int .i64 0, .string ⟨#[]⟩, .slice none 0 0, .slice none 0 0] 29)).alloc (.cells #[.int .i64 6, .bool false, .bool false, .string ⟨#[]⟩, .int .i64 0, .string ⟨#[]⟩, .slice none 0 0, .slice none 0 0] 29) = W3 := ⟨_, rfl⟩
  have bW3 : Below w.heap.size w W3 := by
    rw [← hW3]
    exact (((Below.refl _ w).alloc (Nat.le_refl _) _).alloc (by simp) _).alloc (by simp; omega) _
  have zW3 : W3.heap.size = w.heap.size + 3 := by rw [← hW3]; simp
  have b0 : W3.heap[w.heap.size]? = some (.cells #[rp R] 80 (0, 0)) := by rw [← hW3]; exact new_of (new_of (World.alloc_heap_new _ _) _) _
  have b1 : W3.heap[w.heap.size + 1]? = some (.cells #[.int .i64 0, .bool false, .bool false, .string ⟨#[]⟩, .int .i64 0, .string ⟨#[]⟩, .slice none 0 0, .slice none 0 0] 29 (0, 0)) := by
    rw [← hW3]
    have := World.alloc_heap_new (w.alloc (.cells #[rp R] 80)) (.cells #[.int .i64 0, .bool false, .bool false, .string ⟨#[]⟩, .int .i64 0, .string ⟨#[]⟩, .slice none 0 0, .slice none 0 0] 29)
    rw [World.size_alloc] at this
    exact new_of this _
  have b2 : W3.heap[w.heap.size + 2]? = some (.cells #[.int .i64 6, .bool false, .bool false, .string ⟨#[]⟩, .int .i64 0, .string ⟨#[]⟩, .slice none 0 0, .slice none 0 0] 29 (0, 0)) := by
    rw [← hW3]
    have := World.alloc_heap_new ((w.alloc (.cells #[rp R] 80)).alloc (.cells #[.int .i64 0, .bool false, .bool false, .string ⟨#[]⟩, .int .i64 0, .string ⟨#[]⟩, .slice none 0 0, .slice none 0 0] 29)) (.cells #[.int .i64 6, .bool false, .bool false, .string ⟨#[]⟩, .int .i64 0, .string ⟨#[]⟩, .slice none 0 0, .slice none 0 0] 29)
    rw [World.size_alloc, World.size_alloc] at this
    exact this
  have hS3 := Tre.Seen.made W3 []
  rw [zW3] at hS3
  obtain ⟨W, hW⟩ : ∃ W, (W3.alloc (.map #[] 0)).alloc (.cells #[.map (some (w.heap.size + 1 + 1 + 1))] 95) = W := ⟨_, rfl⟩
  have bW : Below w.heap.size w W := by
    rw [← hW]
    exact (bW3.alloc (by omega) _).alloc (by simp; omega) _
  have zW : W.heap.size = w.heap.size + 5 := by rw [← hW]; simp; omega
  have b0 : W.heap[w.heap.size]? = some (.cells #[rp R] 80 (0, 0)) := by rw [← hW]; exact new_of (new_of b0 _) _
  have b1 : W.heap[w.heap.size + 1]? = some (.cells #[.int .i64 0, .bool false, .bool false, .string ⟨#[]⟩, .int .i64 0, .string ⟨#[]⟩, .slice none 0 0, .slice none 0 0] 29 (0, 0)) := by rw [← hW]; exact new_of (new_of b1 _) _
  have b2 : W.heap[w.heap.size + 2]? = some (.cells #[.int .i64 6, .bool false, .bool false, .string ⟨#[]⟩, .int .i64 0, .string ⟨#[]⟩, .slice none 0 0, .slice none 0 0] 29 (0, 0)) := by rw [← hW]; exact new_of (new_of b2 _) _
  have b4 : W.heap[w.heap.size + 4]? = some (.cells #[.map (some (w.heap.size + 1 + 1 + 1))] 95 (0, 0)) := by
    rw [← hW]
    have := World.alloc_heap_new (W3.alloc (.map #[] 0)) (.cells #[.map (some (w.heap.size + 1 + 1 + 1))] 95)
    rw [World.size_alloc, zW3] at this
    exact this
  have hSW : Seen W (w.heap.size + 3) 0 [] := by
    rw [← hW]
    exact hS3.grown ((Below.refl _ _).alloc (Nat.le_refl _) _)
  have hmm := @run_makeMap Tryz.prog
  have hKI := env_stays hE h (B := w.heap.size) rfl
  have hst : StO w.heap.size R [] [] W := ⟨rfl, b0, b1, by omega, b4, hSW, .slice none 0 0, .slice none 0 0, [], b2, RowT.nil _ _, RowC.nil _ _ _⟩
  have hp := mparts_any (k := 62) (caps := #[.pointer (some ⟨w.heap.size, 0, none⟩), .pointer (some ⟨w.heap.size + 4, 0, none⟩), .pointer (some ⟨w.heap.size + 2, 0, none⟩)]) (x0 := 125) (w := W) (value_good K) (obj := true) (B := w.heap.size) (X := fun i => i = R ∨ w.heap.size + 2 ≤ i) (.inl rfl) (StO w.heap.size R) (Env G) hs ho1 ho2 bW.size hR hKI (fun keys kids a b hs hk => hs.keep hR hk)
    (fun wx p keys kids hh => mobj1_any hs hv hR hh.1 hh.2.1 hh.2.2.2.1 hh.2.2.2.2.1 hh.2.2.2.2.2.1 (fun a b ha k => hKI a b ha k)) (fun wx => rfl) (h.below bW) hq hhd hst (hE.below bW) rfl
  have hgn : ∀ r n, many (value K) (s.drop q) = .no r n → n ≠ 0 := fun r n e => by
    have := many_good (value_good K) (l := s.drop q) (fun e => by rw [e] at hhd; cases hhd)
    rw [e] at this
    exact this.2
  generalize many (value K) (s.drop q) = g at *
  have HGN := Lib.hid hgn
  clear hgn
  have hc0 := cell_of b0 0
  have HW := Lib.hid hW
  have HW3 := Lib.hid hW3
  have HZ3 := Lib.hid zW3
  have HP := Lib.hid hp
  have HBW := Lib.hid bW
  clear hW hW3 hp hst hv h hE b0 b2 b4 bW bW3 hhd hq hKI hS3 hSW zW zW3
  unfold rp at HP HW3 hc0
  unfold rp
  go_enter Tryz.func40, Tryz.ntmps40
  go_wp2_with fail
  rw [HW3.out, HW.out]
  refine HP.out.mono ?_
  rintro e w1 ⟨xP, hP⟩
  have hb1' := xP.at b1 (by omega)
  have g2 : w.grownBy w1 (some R) := ((Off.of_below HBW.out).trans xP).grown (fun i hi hx => by omega)
  cases g with
  | no r n =>
    obtain ⟨rfl, o', hr⟩ := hP
    have hn0 := HGN.out r n rfl
    have hne : (((n : Nat) : Int) != 0) = true := by simpa using hn0
    have hB2 := store8 hb1' (.int .i64 0) (.bool false) (.bool false) (.string ⟨#[]⟩) (.int .i64 0) (.string ⟨#[]⟩) (.slice none 0 0) (.slice none 0 0)
    have k3 := grown8 w1 (w.heap.size + 1) (.int .i64 0) (.bool false) (.bool false) (.string ⟨#[]⟩) (.int .i64 0) (.string ⟨#[]⟩) (.slice none 0 0) (.slice none 0 0)
    have hT := told_zero (o := o) (n := n) (g := Got.no r n) rfl rfl g2 hr k3 (by omega) hR
    obtain ⟨e0, e1, e2, e3, e4, e5, e6, e7⟩ := eight hb1'
    obtain ⟨f0, f1, f2, f3, f4, f5, f6, f7⟩ := free8 hb1'
    have HB := Lib.hid hB2
    have HT := Lib.hid hT
    clear hB2 hT k3 xP hr hn0 g2 hb1' b1
    go_wp2_with fail
    obtain ⟨d0, d1, d2, d3, d4, d5, d6, d7⟩ := eight HB.out
    refine bodyPost_ret (v := .tuple #[zeroV, .int .i64 n]) (by simp [results, Tryz.results40, go_sem, zeroV, d0, d1, d2, d3, d4, d5, d6, d7]) rfl ?_
    exact HT.out
  | ok v r =>
    obtain ⟨rfl, hr, keys, kids, hv, hst⟩ := hP
    obtain ⟨hkl, hb0', hb1'', hz', hb4', hS', uk, uu, cs, hb2', hTr, hrow⟩ := hst
    obtain ⟨ak, ck, hak⟩ := Tre.rowT_slice hTr
    obtain ⟨av, cv, hav⟩ := Tre.rowC_slice hrow
    subst hak; subst hav; subst hv
    have hB2 := store8 hb1' (.int .i64 6) (.bool false) (.bool false) (.string ⟨#[]⟩) (.int .i64 0) (.string ⟨#[]⟩) (.slice ak keys.length ck) (.slice av kids.length cv)
    have k3 := grown8 w1 (w.heap.size + 1) (.int .i64 6) (.bool false) (.bool false) (.string ⟨#[]⟩) (.int .i64 0) (.string ⟨#[]⟩) (.slice ak keys.length ck) (.slice av kids.length cv)
    have hH := made_hold (S := w.heap.size) true hTr.holds hrow k3 (by omega) (by omega)
    have hT : Told R s u o w (.ok (made true keys kids) r) (.returned (.tuple #[.agg #[.int .i64 6, .bool false, .bool false, .string ⟨#[]⟩, .int .i64 0, .string ⟨#[]⟩, .slice ak keys.length ck, .slice av kids.length cv], .int .i64 0])) _ := .ok rfl rfl (grown_on g2 k3 (by omega)) hH (hr.kept k3 (by simp; omega))
    obtain ⟨e0, e1, e2, e3, e4, e5, e6, e7⟩ := eight hb1'
    obtain ⟨f0, f1, f2, f3, f4, f5, f6, f7⟩ := free8 hb1'
    obtain ⟨a0, a1, a2, a3, a4, a5, a6, a7⟩ := eight hb2'
    have HB := Lib.hid hB2
    have HT := Lib.hid hT
    clear hB2 hT k3 xP hr g2 hb1' b1 hH hrow hb2' hb1'' hb0' hz' hb4' hS' hTr hkl
    generalize kids.length = nk at *
    generalize keys.length = nkk at *
    go_wp2_with fail
    obtain ⟨d0, d1, d2, d3, d4, d5, d6, d7⟩ := eight HB.out
    refine bodyPost_ret (v := .tuple #[.agg #[.int .i64 6, .bool false, .bool false, .string ⟨#[]⟩, .int .i64 0, .string ⟨#[]⟩, .slice ak nkk ck, .slice av nk cv], .int .i64 0]) (by simp [results, Tryz.results40, go_sem, d0, d1, d2, d3, d4, d5, d6, d7]) rfl ?_
    exact HT.out
end Go.Proofs.YtlfbnfphocpgeaaGreatDoor.Jdec
namespace Go.Proofs.YtlfbnfphocpgeaaGreatDoor.Jdec
open Go.RowKit Kit Txt
open Utf (nb)
open Tre (Val HoldF zeroV)
/-- The bytes that the texts of a kind begin with. -/
def begL : Nat → List UInt8
  | 0 => [123]
  | 1 => [91]
  | 2 => [34]
  | 3 => [45, 48, 49, 50, 51, 52, 53, 54, 55, 56, 57]
  | 4 => [110]
  | 5 => [116]
  | 6 => [102]
  | _ => []
def kfn : Nat → FuncId
  | 0 => 40
  | 1 => 41
  | 2 => 42
  | 3 => 43
  | 4 => 44
  | 5 => 45
  | _ => 46
theorem kcs_at : ∀ i : _root_.Fin 7, kcs[i.val * 2]? = some (.string (txt (begL i.val))) ∧ kcs[i.val * 2 + 1]? = some (.func (.func (kfn i.val)) #[] #[]) := by
  intro i
  match i with
  | 0 => exact ⟨rfl, rfl⟩
  | 1 => exact ⟨rfl, rfl⟩
  | 2 => exact ⟨rfl, rfl⟩
  | 3 => exact ⟨rfl, rfl⟩
  | 4 => exact ⟨rfl, rfl⟩
  | 5 => exact ⟨rfl, rfl⟩
  | 6 => exact ⟨rfl, rfl⟩
theorem beg_idx : ∀ (i : _root_.Fin 7) (x : _root_.Fin 256), (UInt8.ofNat x.val ∈ begL i.val ∧ 0 ≤ Lib.indexByte (begL i.val) (UInt8.ofNat x.val)) ∨ (UInt8.ofNat x.val ∉ begL i.val ∧ Lib.indexByte (begL i.val) (UInt8.ofNat x.val) < 0) := by decide +kernel
theorem beg_cases {i : Nat} (hi : i < 7) (c : UInt8) : (c ∈ begL i ∧ 0 ≤ Lib.indexByte (begL i) c) ∨ (c ∉ begL i ∧ Lib.indexByte (begL i) c < 0) := by
  have h := beg_idx ⟨i, hi⟩ ⟨c.toNat, c.toNat_lt⟩
  dsimp only at h
  rwa [show UInt8.ofNat c.toNat = c from UInt8.ofNat_toNat] at h
theorem beg_all : ∀ x : _root_.Fin 256, (begins (UInt8.ofNat x.val) = true ∧ ∃ j : _root_.Fin 7, UInt8.ofNat x.val ∈ begL j.val) ∨ (begins (UInt8.ofNat x.val) = false ∧ ∀ j : _root_.Fin 7, UInt8.ofNat x.val ∉ begL j.val) := by decide +kernel
theorem begins_cases (c : UInt8) : (begins c = true ∧ ∃ j, j < 7 ∧ c ∈ begL j) ∨ (begins c = false ∧ ∀ j, j < 7 → c ∉ begL j) := by
  have h := beg_all ⟨c.toNat, c.toNat_lt⟩
  dsimp only at h
  rw [show UInt8.ofNat c.toNat = c from UInt8.ofNat_toNat] at h
  exact h.imp (fun ⟨h1, j, h2⟩ => ⟨h1, j.val, j.isLt, h2⟩) (fun ⟨h1, h2⟩ => ⟨h1, fun j hj => h2 ⟨j, hj⟩⟩)
theorem value_form {K : Nat} {l : List UInt8} {c : UInt8} (h : l.head? = some c) (hb : begins c = false) : value K l = .no l 3 := by
  cases K <;> simp [value, h, hb]
theorem value_deep {l : List UInt8} {c : UInt8} (h : l.head? = some c) (hb : begins c = true) : value 0 l = .no l 5 := by
  simp [value, h, hb]
theorem value_end (K : Nat) {l : List UInt8} (h : l = []) : value K l = .no l 2 := by
  subst h
  cases K <;> rfl
theorem value_succ {K : Nat} {l : List UInt8} {c : UInt8} (h : l.head? = some c) (hb : begins c = true) : value (K + 1) l = read (value K) l := by
  simp [value, h, hb]
theorem digit_all : ∀ x : _root_.Fin 256, UInt8.ofNat x.val ∈ begL 3 → digit (UInt8.ofNat x.val) = true := by decide +kernel
theorem digit_of {c : UInt8} (h : c ∈ begL 3) : digit c = true := by
  have h2 := digit_all ⟨c.toNat, c.toNat_lt⟩
  dsimp only at h2
  rw [show UInt8.ofNat c.toNat = c from UInt8.ofNat_toNat] at h2
  exact h2 h
/-- What a kind's reader tells. -/
def readK (val : List UInt8 → Got Val) (l : List UInt8) : Nat → Got Val
  | 0 => many val l
  | 1 => many val l
  | 2 => text l
  | 3 => number l
  | 4 => word ⟨1, false, Num.zero, [], [], []⟩ [110, 117, 108, 108] l
  | 5 => word ⟨2, true, Num.zero, [], [], []⟩ [116, 114, 117, 101] l
  | _ => word ⟨2, false, Num.zero, [], [], []⟩ [102, 97, 108, 115, 101] l
theorem read_of (val : List UInt8 → Got Val) {l : List UInt8} {c : UInt8} (h : l.head? = some c) {i : Nat} (hi : i < 7) (hc : c ∈ begL i) : read val l = readK val l i := by
  unfold read
  rw [h]
  dsimp only
  match i with
  | 0 =>
    have : c = 123 := by simpa [begL] using hc
    subst this
    rfl
  | 1 =>
    have : c = 91 := by simpa [begL] using hc
    subst this
    rfl
  | 2 =>
    have : c = 34 := by simpa [begL] using hc
    subst this
    rfl
  | 3 =>
    rw [if_pos (digit_of hc)]
    rfl
  | 4 =>
    have : c = 110 := by simpa [begL] using hc
    subst this
    rfl
  | 5 =>
    have : c = 116 := by simpa [begL] using hc
    subst this
    rfl
  | 6 =>
    have : c = 102 := by simpa [begL] using hc
    subst this
    rfl
/-- A kind's reader. -/
theorem kfn_any {G R K : Nat} {s : List UInt8} {q : Nat} {u : Value} {w : World} {o : Int} (hs : s.length < 100000) (ho1 : 0 ≤ o) (ho2 : o ≤ 100) (hv : ValAt G R s u K (o + 1)) (h : Rdr R s q o u w) (hE : Env G w) (hq : q < s.length) {i : Nat} (hi : i < 7) (hc : s[q] ∈ begL i) :
    Calls Tryz.prog (kfn i) #[rp R] w (Told R s u o w (readK (value K) (s.drop q) i)) := by
  have hd : (s.drop q).head? = some s[q] := by rw [List.drop_eq_getElem_cons hq, List.head?_cons]
  match i with
  | 0 =>
    have e : s[q] = 123 := by simpa [begL] using hc
    rw [e] at hd
    exact mobject_any hs ho1 ho2 hv h hE hq hd
  | 1 =>
    have e : s[q] = 91 := by simpa [begL] using hc
    rw [e] at hd
    exact mlist_any hs ho1 ho2 hv h hE hq hd
  | 2 => exact mquoted_any hs (by omega) hE.utf h
  | 3 => exact mnumber_any hs (by omega) hE.tab h
  | 4 => exact mnull_any hs (by omega) h
  | 5 => exact myes_any hs (by omega) h
  | 6 => exact mno_any hs (by omega) h
set_option maxRecDepth 100000 in
theorem kfn_call {i : Nat} (hi : i < 7) (args : Array Value) (wx : World) : (callFunc (kfn i) args).run Tryz.prog wx = .ok (.enter (kfn i) args) wx := by
  match i with
  | 0 => rfl
  | 1 => rfl
  | 2 => rfl
  | 3 => rfl
  | 4 => rfl
  | 5 => rfl
  | 6 => rfl
set_option maxRecDepth 100000 in
set_option maxHeartbeats 16000000 in
theorem mvalue_step {G R K : Nat} {s : List UInt8} {q : Nat} {o : Int} {u : Value} {w : World} (hs : s.length < 100000) (hu : u = .slice (some ⟨G, 0, none⟩) 7 7) (hd : (K = 0 ∧ o = 64) ∨ (∃ K', K = K' + 1 ∧ (o == 64) = false ∧ 0 ≤ o ∧ o ≤ 100 ∧ ValAt G R s u K' (o + 1))) (h : Rdr R s q o u w) (hE : Env G w) (hq : q ≤ s.length) :
    Calls Tryz.prog 48 #[rp R] w (Told R s u o w (value K (s.drop q))) := by
  have hz := txt_size s
  have hR := lt_of_heap h
  have hB := World.alloc_heap_new w (.cells #[.int .i64 0, .bool false, .bool false, .string ⟨#[]⟩, .int .i64 0, .string ⟨#[]⟩, .slice none 0 0, .slice none 0 0] 29)
  have bA : Below w.heap.size w (w.alloc (.cells #[.int .i64 0, .bool false, .bool false, .string ⟨#[]⟩, .int .i64 0, .string ⟨#[]⟩, .slice none 0 0, .slice none 0 0] 29)) := (Below.refl _ w).alloc (Nat.le_refl _) _
  obtain ⟨c0, c1, c2, c3⟩ := four h
  have hGl := lt_of_heap hE.kin
  unfold rp
  by_cases hq2 : q < s.length
  case neg =>
    have hv := value_end K (show s.drop q = [] from List.drop_eq_nil_of_le (by omega))
    have heq : ((q : Int) == (s.length : Int)) = true := by simp; omega
    have hne : R ≠ w.heap.size := by omega
    have fin : ∀ wx, Below w.heap.size w wx → wx.heap[w.heap.size]? = some (.cells #[.int .i64 0, .bool false, .bool false, .string ⟨#[]⟩, .int .i64 0, .string ⟨#[]⟩, .slice none 0 0, .slice none 0 0] 29 (0, 0)) → ∀ wf, wx.grownBy wf (some w.heap.size) → Told R s u o w (value K (s.drop q)) (.returned (.tuple #[zeroV, .int .i64 2])) wf := fun wx b _ wf k =>
      told_zero (n := 2) hv (drop_at hq) (below_grown b) (h.below b) k (Nat.le_refl _) hR
    have HF := Lib.hid fin
    clear fin hv h hE hd hne
    go_enter Tryz.func48, Tryz.ntmps48
    go_wp2_with fail
    go_quiet (fail)
    have b9 := below_drewN bA nq
    have hB9 : ((w.alloc (.cells #[.int .i64 0, .bool false, .bool false, .string ⟨#[]⟩, .int .i64 0, .string ⟨#[]⟩, .slice none 0 0, .slice none 0 0] 29)).drewN nq).heap[w.heap.size]? = some (.cells #[.int .i64 0, .bool false, .bool false, .string ⟨#[]⟩, .int .i64 0, .string ⟨#[]⟩, .slice none 0 0, .slice none 0 0] 29 (0, 0)) := hB
    have hB10 := store8 hB9 (.int .i64 0) (.bool false) (.bool false) (.string ⟨#[]⟩) (.int .i64 0) (.string ⟨#[]⟩) (.slice none 0 0) (.slice none 0 0)
    have fin := HF.out _ b9 hB9 _ (grown8 _ w.heap.size (.int .i64 0) (.bool false) (.bool false) (.string ⟨#[]⟩) (.int .i64 0) (.string ⟨#[]⟩) (.slice none 0 0) (.slice none 0 0))
    have HB10 := Lib.hid hB10
    have HFIN := Lib.hid fin
    clear hB10 fin
    go_wp2_with fail
    obtain ⟨d0, d1, d2, d3, d4, d5, d6, d7⟩ := eight HB10.out
    refine bodyPost_ret (v := .tuple #[zeroV, .int .i64 2]) (by simp [results, Tryz.results48, go_sem, zeroV, d0, d1, d2, d3, d4, d5, d6, d7]) rfl ?_
    exact HFIN.out
  case pos =>
    have hhd : (s.drop q).head? = some s[q] := by rw [List.drop_eq_getElem_cons hq2, List.head?_cons]
    have heq : ((q : Int) == (s.length : Int)) = false := by simp; omega
    have hix := idx hq2
    rw [nb_get hq2] at hix
    have hbeg := begins_cases s[q]
    have hidx := fun i (hi : i < 7) => beg_cases hi s[q]
    have hib := fun i wx => Quo.index_any (w := wx) (begL i) s[q]
    have hvf := value_form (K := K) hhd
    have hvd := value_deep hhd
    have hvs := fun K' => value_succ (K := K') hhd
    have hro := fun K' i (hi : i < 7) => read_of (value K') hhd hi
    have hkf := fun (wx : World) (K' : Nat) (ho1 : 0 ≤ o) (ho2 : o ≤ 100) (hv : ValAt G R s u K' (o + 1)) (hb : Below w.heap.size w wx) i (hi : i < 7) => kfn_any (i := i) hs ho1 ho2 hv (h.below hb) (hE.below hb) hq2 hi
    have hnoc : ∀ (g : Got Val) (n : Nat), g = .no (s.drop q) n → ∀ wx, Below w.heap.size w wx → ∀ wf, wx.grownBy wf (some w.heap.size) → Told R s u o w g (.returned (.tuple #[zeroV, .int .i64 n])) wf := fun g n hv wx b wf k =>
      told_zero hv (drop_at hq) (below_grown b) (h.below b) k (Nat.le_refl _) hR
    have hkin := hE.kin
    subst hu
    generalize s[q] = c at *
    generalize s.drop q = l at *
    have H := Lib.hid h
    have HBEG := Lib.hid hbeg
    have HIDX := Lib.hid hidx
    have HIB := Lib.hid hib
    have HVF := Lib.hid hvf
    have HVD := Lib.hid hvd
    have HVS := Lib.hid hvs
    have HRO := Lib.hid hro
    have HKF := Lib.hid hkf
    have HNO := Lib.hid hnoc
    have HKIN := Lib.hid hkin
    have HD := Lib.hid hd
    clear hbeg hidx hib hvf hvd hvs hro hkf hnoc hkin hd hhd h hE
    unfold rp at HKF
    have hsf := @run_store_func
    go_enter Tryz.func48, Tryz.ntmps48
    go_wp2_with fail
    go_quiet (fail)
    have b9 := below_drewN bA nq
    have hB9 : ((w.alloc (.cells #[.int .i64 0, .bool false, .bool false, .string ⟨#[]⟩, .int .i64 0, .string ⟨#[]⟩, .slice none 0 0, .slice none 0 0] 29)).drewN nq).heap[w.heap.size]? = some (.cells #[.int .i64 0, .bool false, .bool false, .string ⟨#[]⟩, .int .i64 0, .string ⟨#[]⟩, .slice none 0 0, .slice none 0 0] 29 (0, 0)) := hB
    obtain ⟨W9, hW9⟩ : ∃ W9, (w.alloc (.cells #[.int .i64 0, .bool false, .bool false, .string ⟨#[]⟩, .int .i64 0, .string ⟨#[]⟩, .slice none 0 0, .slice none 0 0] 29)).drewN nq = W9 := ⟨_, rfl⟩
    rw [hW9] at b9 hB9
    rw [hW9]
    clear hW9 hB bA c0 c1 c2 c3
    have H9 := H.out.below b9
    obtain ⟨c0, c1, c2, c3⟩ := four H9
    have HB9 := Lib.hid hB9
    have hR9 := lt_of_heap H9
    clear hB9 H9
    go_wp2_with fail
    clear c0 c1 c2 c3
    go_loopw [22] (fun a wr => ∃ i : Nat, a = .int .i64 i ∧ i ≤ 7 ∧ (∀ j, j < i → c ∉ begL j) ∧ wr.heap[w.heap.size]? = some (.cells #[.int .i64 0, .bool false, .bool false, .string ⟨#[]⟩, .int .i64 0, .string ⟨#[]⟩, .slice none 0 0, .slice none 0 0] 29 (0, 0)) ∧ Below w.heap.size w wr) (fun a _ => 7 - (intOf a).toNat)
    case atStart => exact ⟨0, rfl, by omega, fun j hj => absurd hj (Nat.not_lt_zero _), HB9.out, b9⟩
    case round =>
      clear HB9 b9 hR9
      obtain ⟨i, rfl, hi, hno, hBr, br⟩ := hrel
      have hr := H.out.below br
      obtain ⟨c0, c1, c2, c3⟩ := four hr
      have hRr := lt_of_heap hr
      have hGr := Nat.lt_of_lt_of_le hGl br.size
      have hwr := lt_of_heap hBr
      clear hr
      by_cases h7 : i < 7
      · have d1 : decide (i < 7) = true := decide_eq_true h7
        have d2 : (i : Int) < 7 := by omega
        have d3 : decide ((i : Int) < 7) = true := decide_eq_true d2
        have hwi : IntKind.i64.wrap ((i : Int) + 1) = (i : Int) + 1 := by simp only [IntKind.wrap, IntKind.signed, IntKind.bits]; simp; omega
        rcases HIDX.out i h7 with ⟨hin, hge⟩ | ⟨hin, hge⟩
        · have hk0 := (br.cell (p := ⟨G, i * 2, none⟩) hGl).trans ((cell_of HKIN.out (i * 2)).trans (kcs_at ⟨i, h7⟩).1)
          have hk1 := (br.cell (p := ⟨G, i * 2 + 1, none⟩) hGl).trans ((cell_of HKIN.out (i * 2 + 1)).trans (kcs_at ⟨i, h7⟩).2)
          dsimp only at hk0 hk1
          have hlt0 : ¬ (Lib.indexByte (begL i) c < 0) := by omega
          have hib := HIB.out i
          have hbc : begins c = true := by
            rcases HBEG.out with ⟨hb, -⟩ | ⟨-, hb⟩
            · exact hb
            · exact absurd hin (hb i h7)
          have hcl := fun wx => kfn_call h7 #[.pointer (some ⟨R, 0, none⟩)] wx
          rcases HD.out with ⟨rfl, rfl⟩ | ⟨K', rfl, ho, ho1, ho2, hv⟩
          · have hB10 := store8 hBr (.int .i64 0) (.bool false) (.bool false) (.string ⟨#[]⟩) (.int .i64 0) (.string ⟨#[]⟩) (.slice none 0 0) (.slice none 0 0)
            have fin := fun wx b => HNO.out _ 5 (HVD.out hbc) wx b
            clear HVD HVF HVS HRO HKF HNO
            generalize value 0 l = g at *
            generalize Lib.indexByte (begL i) c = x at *
            generalize begL i = bl at *
            have hzb := txt_size bl
            generalize kfn i = kf at *
            have HIB2 := Lib.hid hib
            have HBR := Lib.hid hBr
            have HFIN := Lib.hid fin
            clear hno hib hin hge hBr hbc hcl hB10 fin
            go_wp2_with fail
            go_quiet ((go_at_call 69; exact Calls.quiet_of_same (HIB2.out _)))
            have b9 := below_drewN ((Below.refl wr.heap.size wr).alloc (Nat.le_refl _) (.cells #[.string (txt bl), .func (.func kf) #[] #[]] 82)) nq
            obtain ⟨W9, hW9⟩ : ∃ W9, (wr.alloc (.cells #[.string (txt bl), .func (.func kf) #[] #[]] 82)).drewN nq = W9 := ⟨_, rfl⟩
            rw [hW9] at b9
            rw [hW9]
            clear hW9
            have hB9 := (b9.block _ hwr).trans HBR.out
            have h9 := (H.out.below br).below b9
            have b99 := br.trans (b9.mono br.size)
            clear c0 c1 c2 c3
            obtain ⟨c0, c1, c2, c3⟩ := four h9
            obtain ⟨e0, e1, e2, e3, e4, e5, e6, e7⟩ := eight hB9
            obtain ⟨f0, f1, f2, f3, f4, f5, f6, f7⟩ := free8 hB9
            have HB9 := Lib.hid hB9
            have HB99 := Lib.hid b99
            clear b9 hB9 h9 b99 hk0 hk1
            go_wp2_with fail
            obtain ⟨d0, d1, d2, d3, d4, d5, d6, d7⟩ := eight (store8 HB9.out (.int .i64 0) (.bool false) (.bool false) (.string ⟨#[]⟩) (.int .i64 0) (.string ⟨#[]⟩) (.slice none 0 0) (.slice none 0 0))
            refine bodyPost_ret (v := .tuple #[zeroV, .int .i64 5]) (by simp [results, Tryz.results48, go_sem, zeroV, d0, d1, d2, d3, d4, d5, d6, d7]) rfl ?_
            exact HFIN.out _ HB99.out _ (grown8 W9 w.heap.size (.int .i64 0) (.bool false) (.bool false) (.string ⟨#[]⟩) (.int .i64 0) (.string ⟨#[]⟩) (.slice none 0 0) (.slice none 0 0))
          · have hval : value (K' + 1) l = readK (value K') l i := (HVS.out K' hbc).trans (HRO.out K' i h7 hin)
            have hcall := fun wx hb => HKF.out wx K' ho1 ho2 hv hb i h7 hin
            rw [hval]
            generalize readK (value K') l i = g at *
            generalize Lib.indexByte (begL i) c = x at *
            generalize begL i = bl at *
            have hzb := txt_size bl
            generalize kfn i = kf at *
            have HIB2 := Lib.hid hib
            have HBR := Lib.hid hBr
            have HCALL := Lib.hid hcall
            clear hno hib hin hge hBr hbc hval hcall hv ho1 ho2
            go_wp2_with fail
            go_quiet ((go_at_call 69; exact Calls.quiet_of_same (HIB2.out _)))
            have b9 := below_drewN ((Below.refl wr.heap.size wr).alloc (Nat.le_refl _) (.cells #[.string (txt bl), .func (.func kf) #[] #[]] 82)) nq
            have hk9 := World.alloc_heap_new wr (.cells #[.string (txt bl), .func (.func kf) #[] #[]] 82)
            obtain ⟨W9, hW9⟩ : ∃ W9, (wr.alloc (.cells #[.string (txt bl), .func (.func kf) #[] #[]] 82)).drewN nq = W9 := ⟨_, rfl⟩
            have hk9 : W9.heap[wr.heap.size]? = some (.cells #[.string (txt bl), .func (.func kf) #[] #[]] 82 (0, 0)) := by rw [← hW9]; exact hk9
            rw [hW9] at b9
            rw [hW9]
            clear hW9
            have hB9 := (b9.block _ hwr).trans HBR.out
            have h9 := (H.out.below br).below b9
            have b99 := br.trans (b9.mono br.size)
            have hw9 := lt_of_heap hB9
            have hkc := cell_of hk9 1
            clear c0 c1 c2 c3
            obtain ⟨c0, c1, c2, c3⟩ := four h9
            have HC9 := Lib.hid (HCALL.out _ b99)
            have HB9 := Lib.hid hB9
            have HB99 := Lib.hid b99
            clear b9 hB9 h9 b99 hk0 hk1 hk9
            go_wp2_with fail
            refine HC9.out.mono ?_
            rintro e w1 hT
            obtain ⟨k0, b0, n0, t0, pk, lk, ck, ak, lv, cc, ek, rfl⟩ := hT.form
            have hB1 := kept_of HB9.out hT.grown (by omega)
            have hT2 := hT.stored (below_grown HB99.out) (grown8 w1 w.heap.size (.int .i64 k0) (.bool b0) (.bool n0.neg) (.string (txt n0.dig)) (.int .i64 n0.exp) (.string (txt t0)) (.slice pk lk ck) (.slice ak lv cc)) (Nat.le_refl _) hw9 hR
            obtain ⟨e0, e1, e2, e3, e4, e5, e6, e7⟩ := eight hB1
            obtain ⟨f0, f1, f2, f3, f4, f5, f6, f7⟩ := free8 hB1
            have HB10 := Lib.hid (store8 hB1 (.int .i64 k0) (.bool b0) (.bool n0.neg) (.string (txt n0.dig)) (.int .i64 n0.exp) (.string (txt t0)) (.slice pk lk ck) (.slice ak lv cc))
            have HT := Lib.hid hT2
            clear hB1 hT2 hT c0 c1 c2 c3 hkc
            go_wp2_with fail
            obtain ⟨d0, d1, d2, d3, d4, d5, d6, d7⟩ := eight HB10.out
            refine bodyPost_ret (v := .tuple #[.agg #[.int .i64 k0, .bool b0, .bool n0.neg, .string (txt n0.dig), .int .i64 n0.exp, .string (txt t0), .slice pk lk ck, .slice ak lv cc], .int .i64 ek]) (by simp [results, Tryz.results48, go_sem, d0, d1, d2, d3, d4, d5, d6, d7]) rfl ?_
            exact HT.out
        · have hk0 := (br.cell (p := ⟨G, i * 2, none⟩) hGl).trans ((cell_of HKIN.out (i * 2)).trans (kcs_at ⟨i, h7⟩).1)
          have hk1 := (br.cell (p := ⟨G, i * 2 + 1, none⟩) hGl).trans ((cell_of HKIN.out (i * 2 + 1)).trans (kcs_at ⟨i, h7⟩).2)
          dsimp only at hk0 hk1
          have hlt0 : Lib.indexByte (begL i) c < 0 := hge
          have hib := HIB.out i
          have hno2 : ∀ j, j < i + 1 → c ∉ begL j := fun j hj => by
            by_cases e : j = i
            · rw [e]
              exact hin
            · exact hno j (by omega)
          generalize Lib.indexByte (begL i) c = x at *
          generalize begL i = bl at *
          have hzb := txt_size bl
          generalize kfn i = kf at *
          have HNO2 := Lib.hid hno2
          have HIB2 := Lib.hid hib
          have HBR := Lib.hid hBr
          clear hno hno2 hib hin hge hBr
          go_wp2_with fail
          go_quiet ((go_at_call 69; exact Calls.quiet_of_same (HIB2.out _)))
          have b9 := below_drewN ((Below.refl wr.heap.size wr).alloc (Nat.le_refl _) (.cells #[.string (txt bl), .func (.func kf) #[] #[]] 82)) nq
          go_wp2_with fail
          go_roundw
          case rel => exact ⟨i + 1, by go_num, by omega, HNO2.out, (b9.block _ hwr).trans HBR.out, br.trans (b9.mono br.size)⟩
          case measure => simp [intOf]; omega
      · have d1 : decide (i < 7) = false := decide_eq_false h7
        have d2 : ¬ ((i : Int) < 7) := by omega
        have d3 : decide ((i : Int) < 7) = false := decide_eq_false d2
        have hnb : begins c = false := by
          rcases HBEG.out with ⟨-, j, hj, hc⟩ | ⟨hb, -⟩
          · exact absurd hc (hno j (by omega))
          · exact hb
        have hB10 := store8 hBr (.int .i64 0) (.bool false) (.bool false) (.string ⟨#[]⟩) (.int .i64 0) (.string ⟨#[]⟩) (.slice none 0 0) (.slice none 0 0)
        have fin := HNO.out _ _ (HVF.out hnb) _ br _ (grown8 wr w.heap.size (.int .i64 0) (.bool false) (.bool false) (.string ⟨#[]⟩) (.int .i64 0) (.string ⟨#[]⟩) (.slice none 0 0) (.slice none 0 0))
        obtain ⟨e0, e1, e2, e3, e4, e5, e6, e7⟩ := eight hBr
        obtain ⟨f0, f1, f2, f3, f4, f5, f6, f7⟩ := free8 hBr
        have HB10 := Lib.hid hB10
        have HFIN := Lib.hid fin
        clear hB10 fin hno hnb hBr
        go_wp2_with fail
        obtain ⟨d0, d1, d2, d3, d4, d5, d6, d7⟩ := eight HB10.out
        refine bodyPost_ret (v := .tuple #[zeroV, .int .i64 3]) (by simp [results, Tryz.results48, go_sem, zeroV, d0, d1, d2, d3, d4, d5, d6, d7]) rfl ?_
        exact HFIN.out
/-- value, at every level. -/
theorem mvalue_any {G R : Nat} {s : List UInt8} {u : Value} (hs : s.length < 100000) (hu : u = .slice (some ⟨G, 0, none⟩) 7 7) : ∀ K : Nat, K ≤ 64 → ValAt G R s u K (64 - (K : Int))
  | 0, _ => fun _ _ h hE hq => mvalue_step hs hu (.inl ⟨rfl, by simp⟩) h hE hq
  | K + 1, hK => fun _ _ h hE hq => mvalue_step hs hu (.inr ⟨K, rfl, by simp; omega, by omega, by omega, by
      have := mvalue_any hs hu K (by omega) (G := G) (R := R)
      rwa [show (64 : Int) - (K : Int) = 64 - ((K + 1 : Nat) : Int) + 1 by omega] at this⟩) h hE hq
end Go.Proofs.YtlfbnfphocpgeaaGreatDoor.Jdec
namespace Go.Proofs.YtlfbnfphocpgeaaGreatDoor.Jdec
open Go.RowKit Kit Txt
open Utf (nb)
open Tre (Val HoldF zeroV)
set_option maxRecDepth 100000 in
set_option maxHeartbeats 4000000 in
theorem kinds_any {w : World} : Calls Tryz.prog 25 #[] w fun e w' => (∃ G : Nat, e = .returned (.slice (some ⟨G, 0, none⟩) 7 7) ∧ w.heap.size ≤ G ∧ w'.heap[G]? = some (.cells kcs 82 (0, 0))) ∧ Below w.heap.size w w' := by
  go_enter Tryz.func25, Tryz.ntmps25
  go_wp2_with fail
  go_ret
  exact ⟨⟨w.heap.size, rfl, Nat.le_refl _, World.alloc_heap_new w _⟩, (Below.refl _ w).alloc (Nat.le_refl _) _⟩
theorem skip_nil_iff {s : List UInt8} {q : Nat} (_hq : q ≤ s.length) : skip (s.drop q) = [] ↔ s.length ≤ skipAt s q := by
  have h := skipAt_drop (l := s) (i := q)
  constructor
  · intro e
    rw [e] at h
    have h2 := congrArg List.length h
    rw [List.length_drop] at h2
    simp at h2
    omega
  · intro e
    rw [← h]
    exact List.drop_eq_nil_of_le e
set_option maxRecDepth 100000 in
set_option maxHeartbeats 16000000 in
theorem mwhole_any {G R : Nat} {s : List UInt8} {u : Value} {w : World} (hs : s.length < 100000) (hu : u = .slice (some ⟨G, 0, none⟩) 7 7) (h : Rdr R s 0 0 u w) (hE : Env G w) : Calls Tryz.prog 26 #[rp R] w (Told R s u 0 w (parse s)) := by
  have hz := txt_size s
  have hR := lt_of_heap h
  have hB := World.alloc_heap_new w (.cells #[.int .i64 0, .bool false, .bool false, .string ⟨#[]⟩, .int .i64 0, .string ⟨#[]⟩, .slice none 0 0, .slice none 0 0] 29)
  have bA : Below w.heap.size w (w.alloc (.cells #[.int .i64 0, .bool false, .bool false, .string ⟨#[]⟩, .int .i64 0, .string ⟨#[]⟩, .slice none 0 0, .slice none 0 0] 29)) := (Below.refl _ w).alloc (Nat.le_refl _) _
  have hA := h.below bA
  have hsk := mskip_any hs (Nat.zero_le _) hA
  have hle1 := skipAt_le s 0
  have hd1 := skipAt_drop (l := s) (i := 0)
  rw [List.drop_zero] at hd1
  have hpar : parse s = parse s := rfl
  conv at hpar => rhs; unfold parse
  rw [← hd1] at hpar
  generalize skipAt s 0 = q1 at *
  have hval := fun (wx : World) (hr : Rdr R s q1 0 u wx) (he : Env G wx) => mvalue_any (G := G) (R := R) hs hu 64 (Nat.le_refl _) wx q1 hr he hle1
  have hgood := value_good 64 (s.drop q1)
  have hKI := env_stays hE h (B := w.heap.size) rfl
  generalize parse s = pg at *
  generalize hg : value 64 (s.drop q1) = g at *
  have HV := Lib.hid hval
  have HP := Lib.hid hpar
  have HGD := Lib.hid hgood
  have HSK := Lib.hid hsk
  have HE := Lib.hid (hE.below bA)
  have HB := Lib.hid hB
  have HBA := Lib.hid bA
  have HKI := Lib.hid hKI
  clear hval hpar hgood hsk hE hB bA hKI hg hd1 h hA
  unfold rp at HV HSK
  unfold rp
  go_enter Tryz.func26, Tryz.ntmps26
  go_wp2_with fail
  refine HSK.out.mono ?_
  rintro e w1 ⟨rfl, hr1, g1⟩
  have hE1 := HKI.out _ _ HE.out (.of_grown g1 (.inl (.inl rfl)))
  have hB1 := kept_of HB.out g1 (by omega)
  have ga := grown_trans (below_grown (row := some R) HBA.out) g1
  have HV1 := Lib.hid (HV.out _ hr1 hE1)
  have HB1 := Lib.hid hB1
  have HGA := Lib.hid ga
  have hz1 := lt_of_heap hB1
  clear hr1 g1 hE1 hB1 ga
  go_wp2_with fail
  refine HV1.out.mono ?_
  rintro e w2 hT
  have g2 := hT.grown
  have hB2 := kept_of HB1.out g2 (by omega)
  have gb := grown_trans HGA.out g2
  cases g with
  | no r n =>
    obtain ⟨-, rfl, o', hr2⟩ := hT
    have hn0 : n ≠ 0 := HGD.out.2
    have hne : (((n : Nat) : Int) != 0) = true := by simpa using hn0
    have hpp := HP.out
    dsimp only at hpp
    have HPP := Lib.hid hpp
    have HR2 := Lib.hid hr2
    have HB2 := Lib.hid hB2
    have HGB := Lib.hid gb
    have hlw := lt_of_heap hB2
    have hneB : ¬ w.heap.size = w2.heap.size := by omega
    obtain ⟨e0, e1, e2, e3, e4, e5, e6, e7⟩ := eight hB2
    obtain ⟨f0, f1, f2, f3, f4, f5, f6, f7⟩ := free8 hB2
    unfold zeroV
    clear hpp hr2 hB2 gb g2 hn0
    go_wp2_with fail
    obtain ⟨d0, d1, d2, d3, d4, d5, d6, d7⟩ := eight (new_of (store8 HB2.out (.int .i64 0) (.bool false) (.bool false) (.string ⟨#[]⟩) (.int .i64 0) (.string ⟨#[]⟩) (.slice none 0 0) (.slice none 0 0)) (.cells #[.int .i64 0, .bool false, .bool false, .string ⟨#[]⟩, .int .i64 0, .string ⟨#[]⟩, .slice none 0 0, .slice none 0 0] 29))
    refine bodyPost_ret (v := .tuple #[.agg #[.int .i64 0, .bool false, .bool false, .string ⟨#[]⟩, .int .i64 0, .string ⟨#[]⟩, .slice none 0 0, .slice none 0 0], .int .i64 n]) (by simp [results, Tryz.results26, go_sem, d0, d1, d2, d3, d4, d5, d6, d7]) rfl ?_
    have k := grown8 w2 w.heap.size (.int .i64 0) (.bool false) (.bool false) (.string ⟨#[]⟩) (.int .i64 0) (.string ⟨#[]⟩) (.slice none 0 0) (.slice none 0 0)
    exact .no HPP.out rfl (grown_alloc (grown_on HGB.out k (Nat.le_refl _)) _) ((HR2.out.kept k (by simp; omega)).below ((Below.refl _ _).alloc (Nat.le_refl _) _))
  | ok v r =>
    obtain ⟨-, y, rfl, hy, hr2⟩ := hT
    obtain ⟨pk, ck, ak, cc, rfl⟩ := holdF_form hy
    generalize v.keys.length = lk at *
    generalize v.kids.length = lv at *
    have hsuf : r <:+ s := HGD.out.1.trans (List.drop_suffix _ _)
    have hdr : s.drop (s.length - r.length) = r := drop_suf hsuf
    have hqr : s.length - r.length ≤ s.length := Nat.sub_le _ _
    have hpp := HP.out
    dsimp only at hpp
    have hni := skip_nil_iff hqr
    have hd2 := skipAt_drop (l := s) (i := s.length - r.length)
    have hle2 := skipAt_le s (s.length - r.length)
    rw [hdr] at hni hd2
    have bK : Below w2.heap.size w2 (w2.alloc (.cells #[.int .i64 v.kind, .bool v.is, .bool v.num.neg, .string (txt v.num.dig), .int .i64 v.num.exp, .string (txt v.str), .slice pk lk ck, .slice ak lv cc] 29)) := (Below.refl _ w2).alloc (Nat.le_refl _) _
    have hK := World.alloc_heap_new w2 (.cells #[.int .i64 v.kind, .bool v.is, .bool v.num.neg, .string (txt v.num.dig), .int .i64 v.num.exp, .string (txt v.str), .slice pk lk ck, .slice ak lv cc] 29)
    obtain ⟨W, hW⟩ : ∃ W, w2.alloc (.cells #[.int .i64 v.kind, .bool v.is, .bool v.num.neg, .string (txt v.num.dig), .int .i64 v.num.exp, .string (txt v.str), .slice pk lk ck, .slice ak lv cc] 29) = W := ⟨_, rfl⟩
    rw [hW] at bK hK
    have hBW := (bK.block _ (lt_of_heap hB2)).trans hB2
    have hrW := hr2.below bK
    have hyW : HoldF w1.heap.size W (.agg #[.int .i64 v.kind, .bool v.is, .bool v.num.neg, .string (txt v.num.dig), .int .i64 v.num.exp, .string (txt v.str), .slice pk lk ck, .slice ak lv cc]) v := hy.below bK
    have gW := grown_below gb bK
    have hsk2 := mskip_any hs hqr hrW
    generalize skipAt s (s.length - r.length) = q2 at *
    have hwz : w.heap.size < w2.heap.size := lt_of_heap hB2
    have h1z := HGA.out.size
    have HPP := Lib.hid hpp
    have HNI := Lib.hid hni
    have HD2 := Lib.hid hd2
    have HSK2 := Lib.hid hsk2
    have HK := Lib.hid hK
    have HBW := Lib.hid hBW
    have HYW := Lib.hid hyW
    have HGW := Lib.hid gW
    have HW := Lib.hid hW
    have hRz : R < w2.heap.size := by omega
    clear hpp hni hd2 hsk2 hK hBW hyW gW hW hsuf hdr hqr hr2 hrW hy bK gb g2 hB2
    unfold rp at HSK2
    go_wp2_with fail
    rw [HW.out]
    refine HSK2.out.mono ?_
    rintro e w3 ⟨rfl, hr3, g3⟩
    have hB3 := kept_of HBW.out g3 (by omega)
    have hK3 := kept_of HK.out g3 (by omega)
    have gc := grown_trans HGW.out g3
    have hy3 : HoldF w1.heap.size w3 (.agg #[.int .i64 v.kind, .bool v.is, .bool v.num.neg, .string (txt v.num.dig), .int .i64 v.num.exp, .string (txt v.str), .slice pk lk ck, .slice ak lv cc]) v := by
      obtain ⟨cs, e, hp⟩ := HYW.out
      exact ⟨cs, e, Tre.HoldP.keep g3.size (fun g hg hlt => g3.block g hlt (fun e => by cases e; have : w1.heap.size ≤ R := hg; omega)) v hp⟩
    obtain ⟨c0, c1, c2, c3⟩ := four hr3
    have hR3 := lt_of_heap hr3
    have HR3 := Lib.hid hr3
    have HB3 := Lib.hid hB3
    have HK3 := Lib.hid hK3
    have HGC := Lib.hid gc
    have HY3 := Lib.hid hy3
    clear hr3 g3 gc hy3
    by_cases hend : s.length ≤ q2
    · have hlt1 : decide (q2 < s.length) = false := decide_eq_false (by omega)
      have hpp : pg = .ok v [] := by
        have := HPP.out
        rwa [if_pos (HNI.out.2 hend)] at this
      have hq2 : s.length - ([] : List UInt8).length = q2 := by simp; omega
      have HPQ := Lib.hid hpp
      have HQ2 := Lib.hid hq2
      clear hpp hq2 hB3 hK3
      go_wp2_with fail
      go_quiet (fail)
      have b9 := below_drewN (Below.refl w3.heap.size w3) nq
      obtain ⟨W9, hW9⟩ : ∃ W9, w3.drewN nq = W9 := ⟨_, rfl⟩
      rw [hW9] at b9
      rw [hW9]
      clear hW9 c0 c1 c2 c3
      have hB9 := (b9.block _ (lt_of_heap HB3.out)).trans HB3.out
      have hK9 := (b9.block _ (lt_of_heap HK3.out)).trans HK3.out
      obtain ⟨a0, a1, a2, a3, a4, a5, a6, a7⟩ := eight hK9
      obtain ⟨e0, e1, e2, e3, e4, e5, e6, e7⟩ := eight hB9
      obtain ⟨f0, f1, f2, f3, f4, f5, f6, f7⟩ := free8 hB9
      have HB9 := Lib.hid hB9
      have HB99 := Lib.hid b9
      clear hB9 hK9 b9
      go_wp2_with fail
      obtain ⟨d0, d1, d2, d3, d4, d5, d6, d7⟩ := eight (store8 HB9.out (.int .i64 v.kind) (.bool v.is) (.bool v.num.neg) (.string (txt v.num.dig)) (.int .i64 v.num.exp) (.string (txt v.str)) (.slice pk lk ck) (.slice ak lv cc))
      refine bodyPost_ret (v := .tuple #[.agg #[.int .i64 v.kind, .bool v.is, .bool v.num.neg, .string (txt v.num.dig), .int .i64 v.num.exp, .string (txt v.str), .slice pk lk ck, .slice ak lv cc], .int .i64 0]) (by simp [results, Tryz.results26, go_sem, d0, d1, d2, d3, d4, d5, d6, d7]) rfl ?_
      have k := grown8 W9 w.heap.size (.int .i64 v.kind) (.bool v.is) (.bool v.num.neg) (.string (txt v.num.dig)) (.int .i64 v.num.exp) (.string (txt v.str)) (.slice pk lk ck) (.slice ak lv cc)
      refine .ok HPQ.out HQ2.out (grown_on (grown_below HGC.out HB99.out) k (Nat.le_refl _)) ?_ ((HR3.out.below HB99.out).kept k (by simp; omega))
      have hy9 := HY3.out.below HB99.out
      obtain ⟨cs, e, hp⟩ := hy9
      exact ⟨cs, e, Tre.HoldP.mono (fun g hg _ => Nat.le_trans h1z hg) v (Tre.HoldP.keep k.size (fun g hg hlt => k.block g hlt (fun e => by cases e; have : w1.heap.size ≤ w.heap.size := hg; omega)) v hp)⟩
    · have hlt1 : decide (q2 < s.length) = true := decide_eq_true (by omega)
      have hlt2 : (q2 : Int) < (s.length : Int) := by omega
      have hpp : pg = .no (s.drop q2) 14 := by
        have := HPP.out
        rwa [if_neg (fun e => hend (HNI.out.1 e)), ← HD2.out] at this
      have hq2 := drop_at hle2
      have HPQ := Lib.hid hpp
      have HQ2 := Lib.hid hq2
      clear hpp hq2 hB3 hK3
      go_wp2_with fail
      go_quiet (fail)
      have b9 := below_drewN (Below.refl w3.heap.size w3) nq
      obtain ⟨W9, hW9⟩ : ∃ W9, w3.drewN nq = W9 := ⟨_, rfl⟩
      rw [hW9] at b9
      rw [hW9]
      clear hW9 c0 c1 c2 c3
      have hB9 := (b9.block _ (lt_of_heap HB3.out)).trans HB3.out
      obtain ⟨e0, e1, e2, e3, e4, e5, e6, e7⟩ := eight hB9
      obtain ⟨f0, f1, f2, f3, f4, f5, f6, f7⟩ := free8 hB9
      have HB9 := Lib.hid hB9
      have HB99 := Lib.hid b9
      clear hB9 b9
      go_wp2_with fail
      obtain ⟨d0, d1, d2, d3, d4, d5, d6, d7⟩ := eight (store8 HB9.out (.int .i64 0) (.bool false) (.bool false) (.string ⟨#[]⟩) (.int .i64 0) (.string ⟨#[]⟩) (.slice none 0 0) (.slice none 0 0))
      refine bodyPost_ret (v := .tuple #[.agg #[.int .i64 0, .bool false, .bool false, .string ⟨#[]⟩, .int .i64 0, .string ⟨#[]⟩, .slice none 0 0, .slice none 0 0], .int .i64 14]) (by simp [results, Tryz.results26, go_sem, d0, d1, d2, d3, d4, d5, d6, d7]) rfl ?_
      have k := grown8 W9 w.heap.size (.int .i64 0) (.bool false) (.bool false) (.string ⟨#[]⟩) (.int .i64 0) (.string ⟨#[]⟩) (.slice none 0 0) (.slice none 0 0)
      exact .no (k := 14) HPQ.out HQ2.out (grown_on (grown_below HGC.out HB99.out) k (Nat.le_refl _)) ((HR3.out.below HB99.out).kept k (by simp; omega))
end Go.Proofs.YtlfbnfphocpgeaaGreatDoor.Jdec
namespace Go.Proofs.YtlfbnfphocpgeaaGreatDoor.Jdec
open Go.RowKit Kit Txt
open Utf (nb)
open Tre (Val HoldF zeroV)
/-- What the world must hold: the tables of utf and num. -/
structure Ok (w : World) : Prop where
  utf : Utf.Laid w
  tab : Num.Tab w
theorem Ok.below {w w' : World} (h : Ok w) (k : Below w.heap.size w w') : Ok w' := ⟨laid_below h.utf k, h.tab.below k⟩
/-- What Parse tells. -/
def ParseTold (s : List UInt8) (w : World) (e : Ending) (w' : World) : Prop := Below w.heap.size w w' ∧ match parse s with
  | .ok v _ => ∃ y, e = .returned (.tuple #[y, .int .i64 (-1), .int .i64 0]) ∧ HoldF w.heap.size w' y v
  | .no r n => e = .returned (.tuple #[zeroV, .int .i64 ((s.length - r.length : Nat) : Int), .int .i64 n])
set_option maxRecDepth 100000 in
set_option maxHeartbeats 16000000 in
theorem jparse_all {w : World} {s : List UInt8} (hs : s.length < 100000) (ho : Ok w) : Calls Tryz.prog 10 #[.string (txt s)] w (ParseTold s w) := by
  have hz := txt_size s
  have hgt : decide ((1048576 : Int) < (s.length : Int)) = false := decide_eq_false (by omega)
  have hgt2 : ¬ (1048576 : Int) < (s.length : Int) := by omega
  have hB := World.alloc_heap_new w (.cells #[.int .i64 0, .bool false, .bool false, .string ⟨#[]⟩, .int .i64 0, .string ⟨#[]⟩, .slice none 0 0, .slice none 0 0] 29)
  have bA : Below w.heap.size w (w.alloc (.cells #[.int .i64 0, .bool false, .bool false, .string ⟨#[]⟩, .int .i64 0, .string ⟨#[]⟩, .slice none 0 0, .slice none 0 0] 29)) := (Below.refl _ w).alloc (Nat.le_refl _) _
  obtain ⟨Wa, hWa⟩ : ∃ Wa, w.alloc (.cells #[.int .i64 0, .bool false, .bool false, .string ⟨#[]⟩, .int .i64 0, .string ⟨#[]⟩, .slice none 0 0, .slice none 0 0] 29) = Wa := ⟨_, rfl⟩
  rw [hWa] at hB bA
  have hk := kinds_any (w := Wa)
  have hwa := lt_of_heap hB
  have hwh := fun (G R : Nat) (wx : World) (h : Rdr R s 0 0 (.slice (some ⟨G, 0, none⟩) 7 7) wx) (hE : Env G wx) => mwhole_any (G := G) (R := R) hs rfl h hE
  unfold rp at hwh
  generalize hg : parse s = g at *
  have HWA := Lib.hid hWa
  have HK := Lib.hid hk
  have HWH := Lib.hid hwh
  have HBA := Lib.hid bA
  have HB := Lib.hid hB
  have HG := Lib.hid hg
  clear hWa hk hwh bA hB hg
  go_enter Tryz.func10, Tryz.ntmps10
  go_wp2_with fail
  rw [HWA.out]
  refine HK.out.mono ?_
  rintro e w1 ⟨⟨G, rfl, hG1, hG2⟩, k1⟩
  have hR := World.alloc_heap_new w1 (.cells #[.string (txt s), .int .i64 0, .int .i64 0, .slice (some ⟨G, 0, none⟩) 7 7] 55)
  have bR : Below w1.heap.size w1 (w1.alloc (.cells #[.string (txt s), .int .i64 0, .int .i64 0, .slice (some ⟨G, 0, none⟩) 7 7] 55)) := (Below.refl _ w1).alloc (Nat.le_refl _) _
  obtain ⟨W, hW⟩ : ∃ W, w1.alloc (.cells #[.string (txt s), .int .i64 0, .int .i64 0, .slice (some ⟨G, 0, none⟩) 7 7] 55) = W := ⟨_, rfl⟩
  rw [hW] at hR bR
  have b1 := HBA.out.trans (k1.mono HBA.out.size)
  have b2 := b1.trans (bR.mono b1.size)
  have hE : Env G W := ⟨(ho.below b2).utf, (ho.below b2).tab, (bR.block _ (lt_of_heap hG2)).trans hG2⟩
  have hr : Rdr w1.heap.size s 0 0 (.slice (some ⟨G, 0, none⟩) 7 7) W := hR
  have hcall := HWH.out G w1.heap.size W hr hE
  have hBW := ((k1.trans (bR.mono k1.size)).block _ hwa).trans HB.out
  have hwz : w.heap.size < w1.heap.size := Nat.lt_of_lt_of_le hwa k1.size
  have HW := Lib.hid hW
  have HC := Lib.hid hcall
  have HB2 := Lib.hid b2
  have HBW := Lib.hid hBW
  clear hW hcall b1 b2 hBW hR bR hE hr hG1 hG2 k1
  go_wp2_with fail
  rw [HW.out]
  go_wp2_with fail
  refine HC.out.mono ?_
  rintro e w2 hT
  have g2 := hT.grown
  have hB3 := kept_of HBW.out g2 (by omega)
  have b3 : Below w.heap.size w w2 := HB2.out.grown g2 HB2.out.size (fun k e => by cases e; omega)
  cases g with
  | no r n =>
    obtain ⟨-, rfl, o', hr2⟩ := hT
    have hgood := parse_good s
    rw [HG.out] at hgood
    have hn0 : n ≠ 0 := hgood.2
    have hne : (((n : Nat) : Int) != 0) = true := by simpa using hn0
    obtain ⟨e0, e1, e2, e3, e4, e5, e6, e7⟩ := eight hB3
    obtain ⟨f0, f1, f2, f3, f4, f5, f6, f7⟩ := free8 hB3
    have HB3 := Lib.hid hB3
    have HB33 := Lib.hid b3
    have HR2 := Lib.hid hr2
    have hlw := lt_of_heap hB3
    unfold zeroV
    clear hB3 b3 hr2 hgood hn0 g2
    go_wp2_with fail
    obtain ⟨W5, hW5⟩ : ∃ W5, ((((((((w2.setCell ⟨w.heap.size, 0, none⟩ (.int .i64 0)).setCell ⟨w.heap.size, 1, none⟩ (.bool false)).setCell ⟨w.heap.size, 2, none⟩ (.bool false)).setCell ⟨w.heap.size, 3, none⟩ (.string ⟨#[]⟩)).setCell ⟨w.heap.size, 4, none⟩ (.int .i64 0)).setCell ⟨w.heap.size, 5, none⟩ (.string ⟨#[]⟩)).setCell ⟨w.heap.size, 6, none⟩ (.slice none 0 0)).setCell ⟨w.heap.size, 7, none⟩ (.slice none 0 0)) = W5 := ⟨_, rfl⟩
    rw [hW5]
    have k5 := grown8 w2 w.heap.size (.int .i64 0) (.bool false) (.bool false) (.string ⟨#[]⟩) (.int .i64 0) (.string ⟨#[]⟩) (.slice none 0 0) (.slice none 0 0)
    have hB5 := store8 HB3.out (.int .i64 0) (.bool false) (.bool false) (.string ⟨#[]⟩) (.int .i64 0) (.string ⟨#[]⟩) (.slice none 0 0) (.slice none 0 0)
    rw [hW5] at k5 hB5
    have hr5 := HR2.out.kept k5 (by simp; omega)
    have b5 := HB33.out.grown k5 HB33.out.size (fun k e => by cases e; exact Nat.le_refl _)
    clear hW5 e0 e1 e2 e3 e4 e5 e6 e7 f0 f1 f2 f3 f4 f5 f6 f7 k5
    obtain ⟨e0, e1, e2, e3, e4, e5, e6, e7⟩ := eight hB5
    obtain ⟨f0, f1, f2, f3, f4, f5, f6, f7⟩ := free8 hB5
    obtain ⟨c0, c1, c2, c3⟩ := four hr5
    have HB5 := Lib.hid hB5
    have HB55 := Lib.hid b5
    clear hB5 b5 hr5
    obtain ⟨W6, hW6⟩ : ∃ W6, ((((((((W5.setCell ⟨w.heap.size, 0, none⟩ (.int .i64 0)).setCell ⟨w.heap.size, 1, none⟩ (.bool false)).setCell ⟨w.heap.size, 2, none⟩ (.bool false)).setCell ⟨w.heap.size, 3, none⟩ (.string ⟨#[]⟩)).setCell ⟨w.heap.size, 4, none⟩ (.int .i64 0)).setCell ⟨w.heap.size, 5, none⟩ (.string ⟨#[]⟩)).setCell ⟨w.heap.size, 6, none⟩ (.slice none 0 0)).setCell ⟨w.heap.size, 7, none⟩ (.slice none 0 0)) = W6 := ⟨_, rfl⟩
    have hB6 := store8 HB5.out (.int .i64 0) (.bool false) (.bool false) (.string ⟨#[]⟩) (.int .i64 0) (.string ⟨#[]⟩) (.slice none 0 0) (.slice none 0 0)
    have b6 := HB55.out.grown (grown8 W5 w.heap.size (.int .i64 0) (.bool false) (.bool false) (.string ⟨#[]⟩) (.int .i64 0) (.string ⟨#[]⟩) (.slice none 0 0) (.slice none 0 0)) HB55.out.size (fun k e => by cases e; exact Nat.le_refl _)
    rw [hW6] at hB6 b6
    have HB6 := Lib.hid hB6
    have HB66 := Lib.hid b6
    have HW6 := Lib.hid hW6
    clear hW6 hB6 b6
    go_region_law (fail)
    all_goals
      go_wp2_with fail
      simp only [Act.put, List.getElem_toArray, List.getElem_cons_zero, List.getElem_cons_succ, List.setIfInBounds_toArray, List.set_cons_zero, List.set_cons_succ]
      rw [HW6.out]
      obtain ⟨d0, d1, d2, d3, d4, d5, d6, d7⟩ := eight (show W6.drew.heap[w.heap.size]? = _ from HB6.out)
      refine bodyPost_ret (v := .tuple #[.agg #[.int .i64 0, .bool false, .bool false, .string ⟨#[]⟩, .int .i64 0, .string ⟨#[]⟩, .slice none 0 0, .slice none 0 0], .int .i64 ((s.length - r.length : Nat) : Int), .int .i64 n]) (by simp [results, Tryz.results10, go_sem, d0, d1, d2, d3, d4, d5, d6, d7]) rfl ?_
      refine ⟨below_drewN HB66.out 1, ?_⟩
      rw [HG.out]
      rfl
  | ok v r =>
    obtain ⟨-, y, rfl, hy, hr2⟩ := hT
    obtain ⟨pk, ck, ak, cc, rfl⟩ := holdF_form hy
    generalize v.keys.length = lk at *
    generalize v.kids.length = lv at *
    obtain ⟨e0, e1, e2, e3, e4, e5, e6, e7⟩ := eight hB3
    obtain ⟨f0, f1, f2, f3, f4, f5, f6, f7⟩ := free8 hB3
    have HB3 := Lib.hid hB3
    have HB33 := Lib.hid b3
    have HY := Lib.hid hy
    have hwz2 := HB2.out.size
    have hWz : w.heap.size < W.heap.size := lt_of_heap HBW.out
    clear hB3 b3 hr2 g2 hy
    go_wp2_with fail
    obtain ⟨W5, hW5⟩ : ∃ W5, ((((((((w2.setCell ⟨w.heap.size, 0, none⟩ (.int .i64 v.kind)).setCell ⟨w.heap.size, 1, none⟩ (.bool v.is)).setCell ⟨w.heap.size, 2, none⟩ (.bool v.num.neg)).setCell ⟨w.heap.size, 3, none⟩ (.string (txt v.num.dig))).setCell ⟨w.heap.size, 4, none⟩ (.int .i64 v.num.exp)).setCell ⟨w.heap.size, 5, none⟩ (.string (txt v.str))).setCell ⟨w.heap.size, 6, none⟩ (.slice pk lk ck)).setCell ⟨w.heap.size, 7, none⟩ (.slice ak lv cc)) = W5 := ⟨_, rfl⟩
    have hB5 := store8 HB3.out (.int .i64 v.kind) (.bool v.is) (.bool v.num.neg) (.string (txt v.num.dig)) (.int .i64 v.num.exp) (.string (txt v.str)) (.slice pk lk ck) (.slice ak lv cc)
    have k5 := grown8 w2 w.heap.size (.int .i64 v.kind) (.bool v.is) (.bool v.num.neg) (.string (txt v.num.dig)) (.int .i64 v.num.exp) (.string (txt v.str)) (.slice pk lk ck) (.slice ak lv cc)
    rw [hW5] at hB5 k5
    rw [hW5]
    have hB6 := store8 hB5 (.int .i64 v.kind) (.bool v.is) (.bool v.num.neg) (.string (txt v.num.dig)) (.int .i64 v.num.exp) (.string (txt v.str)) (.slice pk lk ck) (.slice ak lv cc)
    have k6 := grown_trans k5 (grown8 W5 w.heap.size (.int .i64 v.kind) (.bool v.is) (.bool v.num.neg) (.string (txt v.num.dig)) (.int .i64 v.num.exp) (.string (txt v.str)) (.slice pk lk ck) (.slice ak lv cc))
    obtain ⟨d0, d1, d2, d3, d4, d5, d6, d7⟩ := eight hB6
    refine bodyPost_ret (v := .tuple #[.agg #[.int .i64 v.kind, .bool v.is, .bool v.num.neg, .string (txt v.num.dig), .int .i64 v.num.exp, .string (txt v.str), .slice pk lk ck, .slice ak lv cc], .int .i64 (-1), .int .i64 0]) (by simp [results, Tryz.results10, go_sem, d0, d1, d2, d3, d4, d5, d6, d7]) rfl ?_
    refine ⟨HB33.out.grown k6 HB33.out.size (fun k e => by cases e; exact Nat.le_refl _), ?_⟩
    rw [HG.out]
    refine ⟨_, rfl, ?_⟩
    obtain ⟨cs, e, hp⟩ := HY.out
    exact ⟨cs, e, Tre.HoldP.mono (fun g hg _ => Nat.le_trans (Nat.le_of_lt hWz) hg) v (Tre.HoldP.keep k6.size (fun g hg hlt => k6.block g hlt (fun e => by cases e; have : W.heap.size ≤ w.heap.size := hg; omega)) v hp)⟩
end Go.Proofs.YtlfbnfphocpgeaaGreatDoor.Jdec
