/- A part of what is_holds leans on (its texts, put together). Nothing is claimed here. -/
import Derived.Test.YtlfbnfphocpgeaaGreatDoorIs21
import Derived.Test.YtlfbnfphocpgeaaGreatDoorIs23
namespace Go.Proofs.YtlfbnfphocpgeaaGreatDoor.Jdec
open Go.RowKit Kit Txt
open Utf (nb)
open Tre (Val HoldF HoldP zeroV RowC put8 none')
def kcs : Array Value := #[.string ⟨#[123]⟩, .func (.func 40) #[] #[], .string ⟨#[91]⟩, .func (.func 41) #[] #[], .string ⟨#[34]⟩, .func (.func 42) #[] #[], .string ⟨#[45, 48, 49, 50, 51, 52, 53, 54, 55, 56, 57]⟩, .func (.func 43) #[] #[], .string ⟨#[110]⟩, .func (.func 44) #[] #[], .string ⟨#[116]⟩, .func (.func 45) #[] #[], .string ⟨#[102]⟩, .func (.func 46) #[] #[]]
structure Env (G : Nat) (w : World) : Prop where
 utf : Utf.Laid w
 tab : Num.Tab w
 kin : w.heap[G]? = some (.cells kcs 82 (0, 0))
theorem Env.off {G R : Nat} {X : Nat → Prop} {s : List UInt8} {q : Nat} {o : Int} {u : Value} {a b : World} (h : Env G a) (hr : ∃ w : World, Env G w ∧ Rdr R s q o u w) (k : Off X a b) (hX : ∀ i, X i → i < a.heap.size → i = R ∨ (∃ w : World, Env G w ∧ w.heap.size ≤ i)) : Env G b := by
 have key : ∀ i, (∀ w, Env G w → i < w.heap.size) → (∀ w, Env G w → Rdr R s q o u w → i ≠ R) → i < a.heap.size → b.heap[i]? = a.heap[i]? := fun i h1 h2 h3 => k.block i h3 fun hx => by
   rcases hX i hx h3 with e | ⟨w, hw, e⟩
   · obtain ⟨w, hw, hwr⟩ := hr
     exact h2 w hw hwr e
   · have := h1 w hw
     omega
 obtain ⟨t1, f1, e1⟩ := h.utf
 obtain ⟨t2, f2, e2⟩ := h.tab
 refine ⟨⟨t1, f1, (key _ (fun w hw => ?_) (fun w hw hr e => ?_) (lt_of_heap e1)).trans e1⟩, ⟨t2, f2, (key _ (fun w hw => ?_) (fun w hw hr e => ?_) (lt_of_heap e2)).trans e2⟩, (key _ (fun w hw => ?_) (fun w hw hr e => ?_) (lt_of_heap h.kin)).trans h.kin⟩
 · exact Utf.Laid.lt hw.utf
 · obtain ⟨t, f, e'⟩ := hw.utf
   unfold Rdr at hr
   rw [e, hr] at e'
   injection e' with e'
   injection e' with e' _ _
   exact absurd (show Utf.kcells.size = 4 from (congrArg Array.size e').symm.trans rfl) (by decide)
 · obtain ⟨t, f, e'⟩ := hw.tab
   exact lt_of_heap e'
 · obtain ⟨t, f, e'⟩ := hw.tab
   unfold Rdr at hr
   rw [e, hr] at e'
   injection e' with e'
   injection e' with e' _ _
   exact absurd (show Num.tcells.size = 4 from (congrArg Array.size e').symm.trans rfl) (by decide)
 · exact lt_of_heap hw.kin
 · have e' := hw.kin
   unfold Rdr at hr
   rw [e, hr] at e'
   injection e' with e'
   injection e' with e' _ _
   exact absurd (show kcs.size = 4 from (congrArg Array.size e').symm.trans rfl) (by decide)
theorem Env.below {G : Nat} {a b : World} (h : Env G a) (k : Below a.heap.size a b) : Env G b := by
 obtain ⟨t1, f1, e1⟩ := h.utf
 obtain ⟨t2, f2, e2⟩ := h.tab
 exact ⟨⟨t1, f1, (k.block _ (lt_of_heap e1)).trans e1⟩, ⟨t2, f2, (k.block _ (lt_of_heap e2)).trans e2⟩, (k.block _ (lt_of_heap h.kin)).trans h.kin⟩
def ValAt (G R : Nat) (s : List UInt8) (u : Value) (K : Nat) (o : Int) : Prop := ∀ (w : World) (q : Nat), Rdr R s q o u w → Env G w → q ≤ s.length → Calls Tryz.prog 48 #[rp R] w (Told R s u o w (value K (s.drop q)))
def StL (B R : Nat) (keys : List (List UInt8)) (kids : List Val) (w : World) : Prop :=
 keys = [] ∧ w.heap[B]? = some (.cells #[rp R] 80 (0, 0)) ∧ w.heap[B + 1]? = some (.cells #[.int .i64 0, .bool false, .bool false, .string ⟨#[]⟩, .int .i64 0, .string ⟨#[]⟩, .slice none 0 0, .slice none 0 0] 29 (0, 0)) ∧ B + 3 ≤ w.heap.size ∧
 ∃ (uu : Value) (cs : List (List Value)), w.heap[B + 2]? = some (.cells #[.int .i64 5, .bool false, .bool false, .string ⟨#[]⟩, .int .i64 0, .string ⟨#[]⟩, .slice none 0 0, uu] 29 (0, 0)) ∧ RowC none (B + 3) w uu kids cs
theorem StL.keep {B R : Nat} {keys : List (List UInt8)} {kids : List Val} {a b : World} (hRB : R < B) (h : StL B R keys kids a) (k : a.grownBy b (some R)) : StL B R keys kids b := by
 obtain ⟨h1, h2, h3, h4, uu, cs, h5, h6⟩ := h
 exact ⟨h1, kept_of h2 k (by omega), kept_of h3 k (by omega), Nat.le_trans h4 k.size, uu, cs, kept_of h5 k (by omega), h6.other k (by omega)⟩
theorem Told.holds {R : Nat} {s : List UInt8} {u : Value} {o : Int} {w : World} {g : Got Val} {y : Value} {ek : Int} {w' : World} (h : Told R s u o w g (.returned (.tuple #[y, .int .i64 ek])) w') : ∃ z, HoldF w.heap.size w' y z ∧
   ((∃ r, g = .ok z r ∧ ek = 0 ∧ Rdr R s (s.length - r.length) o u w') ∨ (∃ r k, g = .no r k ∧ ek = (k : Int) ∧ ∃ o', Rdr R s (s.length - r.length) o' u w')) := by
 cases g with
 | ok v r =>
   obtain ⟨-, y', e, hy, hr⟩ := h
   injection e with e
   injection e with e
   have e1 : y = y' := by injection e with e; injection e
   have e2 : ek = 0 := by injection e with e; injection e with _ e; injection e with e _; injection e
   subst e1; subst e2
   exact ⟨v, hy, .inl ⟨r, rfl, rfl, hr⟩⟩
 | no r k =>
   obtain ⟨-, e, o', hr⟩ := h
   injection e with e
   injection e with e
   have e1 : y = zeroV := by injection e with e; injection e
   have e2 : ek = (k : Int) := by injection e with e; injection e with _ e; injection e with e _; injection e
   subst e1; subst e2
   exact ⟨none', flat_hold 0 false Num.zero [] _ _, .inr ⟨r, k, rfl, rfl, o', hr⟩⟩
theorem named_list (keys : List (List UInt8)) (l : List UInt8) : named false keys l = .ok keys l := rfl
theorem new8 (w : World) (c : List Value) (_hc : c.length = 8) : ∀ j, j < 8 → (w.alloc (.cells c.toArray 29)).cell? ⟨w.heap.size, j, none⟩ = c[j]? := fun j _ => by
 rw [cell_of (World.alloc_heap_new w (.cells c.toArray 29))]
 simp
def zerosL : List Value := [.int .i64 0, .bool false, .bool false, .string ⟨#[]⟩, .int .i64 0, .string ⟨#[]⟩, .slice none 0 0, .slice none 0 0]
theorem zeros_hold (X : Nat → Prop) (w : World) : HoldP X w zerosL none' := by
 show HoldP X w zerosL ⟨0, false, Num.zero, [], [], []⟩
 rw [Tre.HoldP]
 exact ⟨_, none, 0, rfl, ⟨none, 0, rfl, Nat.le_refl _, by omega, .inl rfl⟩, Nat.le_refl _, by omega, .inl rfl⟩
theorem put8_grown (W : World) (g o : Nat) (a b c d e f x y : Value) : W.grownBy (put8 W g o a b c d e f x y) (some g) := by
 unfold put8
 exact grown_trans (grown_trans (grown_trans (grown_trans (grown_trans (grown_trans (grown_trans (grown_cell _ g o _) (grown_cell _ g (o + 1) _)) (grown_cell _ g (o + 2) _)) (grown_cell _ g (o + 3) _)) (grown_cell _ g (o + 4) _)) (grown_cell _ g (o + 5) _)) (grown_cell _ g (o + 6) _)) (grown_cell _ g (o + 7) _)
def Fin (B R : Nat) (a : World) (P : World → Prop) (b : World) : Prop := Off (fun i => i = R ∨ B + 2 ≤ i) a b ∧ (∀ o : Obj, a.heap[R]? = some o → b.heap[R]? = some o) ∧ P b
theorem list_fin {B R g4 n cap4 : Nat} {w4 : World} {kids : List Val} {cs : List (List Value)} {z : Val} {uu a b c d e f x y : Value} (hR4 : RowC none (B + 3) w4 (.slice (some ⟨g4, 0, none⟩) (n + 1) cap4) (kids ++ [none']) (cs ++ [zerosL])) (hkn : kids.length = n)
   (h0 : w4.heap[B]? = some (.cells #[rp R] 80 (0, 0))) (h1 : w4.heap[B + 1]? = some (.cells #[.int .i64 0, .bool false, .bool false, .string ⟨#[]⟩, .int .i64 0, .string ⟨#[]⟩, .slice none 0 0, .slice none 0 0] 29 (0, 0)))
   (h2 : w4.heap[B + 2]? = some (.cells #[.int .i64 5, .bool false, .bool false, .string ⟨#[]⟩, .int .i64 0, .string ⟨#[]⟩, .slice none 0 0, uu] 29 (0, 0))) (hz : B + 3 ≤ w4.heap.size)
   (hP : HoldP (fun q => B + 3 ≤ q ∧ q ≠ g4) w4 [a, b, c, d, e, f, x, y] z) (hRB : R < B) :
   Fin B R w4 (StL B R [] (kids ++ [z])) ((put8 w4 g4 (n * 8) a b c d e f x y).setCell ⟨B + 2, 7, none⟩ (.slice (some ⟨g4, 0, none⟩) (n + 1) cap4)) ∧
   Fin B R w4 (StL B R [] (kids ++ [z])) (put8 (w4.setCell ⟨B + 2, 7, none⟩ (.slice (some ⟨g4, 0, none⟩) (n + 1) cap4)) g4 (n * 8) a b c d e f x y) := by
 have hg4 := hR4.block.1
 have hP' : ∀ w', HoldP (fun q => B + 3 ≤ q ∧ q ≠ g4) w' [a, b, c, d, e, f, x, y] z → HoldP (fun q => B + 3 ≤ q ∧ (Value.slice (some ⟨g4, 0, none⟩) (n + 1) cap4).ownBlock ≠ some q ∧ none ≠ some q) w' [a, b, c, d, e, f, x, y] z := fun w' h =>
   HoldP.mono (fun q hq _ => ⟨hq.1, fun e => hq.2 (by simpa [Value.ownBlock] using e.symm), by simp⟩) z h
 constructor
 · have k1 := put8_grown w4 g4 (n * 8) a b c d e f x y
   have k2 := grown_cell (put8 w4 g4 (n * 8) a b c d e f x y) (B + 2) 7 (.slice (some ⟨g4, 0, none⟩) (n + 1) cap4)
   refine ⟨(Off.of_grown k1 (.inl (.inr (by omega)))).trans (.of_grown k2 (.inl (.inr (by omega)))), fun o h => kept_of (kept_of h k1 (by omega)) k2 (by omega), rfl, kept_of (kept_of h0 k1 (by omega)) k2 (by omega), kept_of (kept_of h1 k1 (by omega)) k2 (by omega), Nat.le_trans hz (Nat.le_trans k1.size k2.size), _, cs ++ [[a, b, c, d, e, f, x, y]], ?_, (hR4.fill hkn (hP' _ hP)).other k2 (by omega)⟩
   simpa using set_of (kept_of h2 k1 (by omega)) 7 (.slice (some ⟨g4, 0, none⟩) (n + 1) cap4)
 · have k2 := grown_cell w4 (B + 2) 7 (.slice (some ⟨g4, 0, none⟩) (n + 1) cap4)
   have k1 := put8_grown (w4.setCell ⟨B + 2, 7, none⟩ (.slice (some ⟨g4, 0, none⟩) (n + 1) cap4)) g4 (n * 8) a b c d e f x y
   refine ⟨(Off.of_grown k2 (.inl (.inr (by omega)))).trans (.of_grown k1 (.inl (.inr (by omega)))), fun o h => kept_of (kept_of h k2 (by omega)) k1 (by omega), rfl, kept_of (kept_of h0 k2 (by omega)) k1 (by omega), kept_of (kept_of h1 k2 (by omega)) k1 (by omega), Nat.le_trans hz (Nat.le_trans k2.size k1.size), _, cs ++ [[a, b, c, d, e, f, x, y]], ?_, (hR4.other k2 (by omega)).fill hkn (hP' _ (HoldP.keep k2.size (fun q hq hlt => k2.block q hlt (fun e => by cases e; omega)) z hP))⟩
   refine kept_of ?_ k1 (by omega)
   simpa using set_of h2 7 (.slice (some ⟨g4, 0, none⟩) (n + 1) cap4)
set_option maxRecDepth 100000 in
set_option maxHeartbeats 16000000 in
theorem mlist1_any {G R B K : Nat} {s : List UInt8} {u : Value} {o : Int} {wx : World} {p : Nat} {keys : List (List UInt8)} {kids : List Val} (hv : ValAt G R s u K o) (hRB : R < B) (hr : Rdr R s p o u wx) (hE : Env G wx) (hSt : StL B R keys kids wx) (hp : p ≤ s.length) (hk : kids.length < 100000) :
   Calls Tryz.prog 64 #[.pointer (some ⟨B, 0, none⟩), .pointer (some ⟨B + 2, 0, none⟩)] wx fun e w' => Off (fun i => i = R ∨ B + 2 ≤ i) wx w' ∧ ReadTold R s u o (StL B R) kids (part (value K) false keys (s.drop p)) e w' := by
 obtain ⟨rfl, hb0, hb1, hz, uu, cs, hb2, hrow⟩ := hSt
 obtain ⟨ao, co, -, hu⟩ : ∃ ao co, True ∧ uu = .slice ao kids.length co := by
   obtain ⟨a, c, h, -⟩ := hrow.holds
   exact ⟨a, c, trivial, h⟩
 subst hu
 have hval := hv wx p hr hE hp
 have hpart : part (value K) false [] (s.drop p) = match value K (s.drop p) with | .no r e => .no r e | .ok x r => .ok ([], x) r := by
   unfold part
   rw [named_list]
   rfl
 have hgn : ∀ r k, value K (s.drop p) = .no r k → k ≠ 0 := fun r k e => by
   have := value_good K (s.drop p)
   rw [e] at this
   exact this.2
 generalize value K (s.drop p) = g at *
 have HGN := Lib.hid hgn
 clear hgn
 generalize part (value K) false [] (s.drop p) = pg at *
 have hc0 := cell_of hb0 0
 have HV := Lib.hid hval
 have HPG := Lib.hid hpart
 have HROW := Lib.hid hrow
 generalize hkn : kids.length = n at *
 have HKN := Lib.hid hkn
 clear hval hpart hr hE hv hp hrow hkn
 unfold rp at hc0 HV
 go_enter Tryz.func64, Tryz.ntmps64
 go_wp2_with fail
 refine HV.out.mono ?_
 rintro e w1 hT
 obtain ⟨k0, b0, n0, t0, pk, lk, ck, ak, lv, cc, ek, rfl⟩ := hT.form
 have g1 := hT.grown
 obtain ⟨z, hzF, hcase⟩ := hT.holds
 have hb0' := kept_of hb0 g1 (by omega)
 have hb1' := kept_of hb1 g1 (by omega)
 have hb2' := kept_of hb2 g1 (by omega)
 have hrow1 := HROW.out.other g1 (by omega)
 have hE := World.alloc_heap_new w1 (.cells #[.int .i64 k0, .bool b0, .bool n0.neg, .string (txt n0.dig), .int .i64 n0.exp, .string (txt t0), .slice pk lk ck, .slice ak lv cc] 29)
 have bE : Below w1.heap.size w1 (w1.alloc (.cells #[.int .i64 k0, .bool b0, .bool n0.neg, .string (txt n0.dig), .int .i64 n0.exp, .string (txt t0), .slice pk lk ck, .slice ak lv cc] 29)) := (Below.refl _ w1).alloc (Nat.le_refl _) _
 have hw1z := g1.size
 have HT := Lib.hid hT
 have HC := Lib.hid hcase
 have HZF := Lib.hid hzF
 have HG1 := Lib.hid g1
 clear hT hcase hzF g1 hc0 HV
 go_wp2_with fail
 obtain ⟨W, hW⟩ : ∃ W, w1.alloc (.cells #[.int .i64 k0, .bool b0, .bool n0.neg, .string (txt n0.dig), .int .i64 n0.exp, .string (txt t0), .slice pk lk ck, .slice ak lv cc] 29) = W := ⟨_, rfl⟩
 have hWz : w1.heap.size < W.heap.size := by rw [← hW]; simp
 rw [hW] at hE bE
 rw [hW]
 have hb2W := (bE.block _ (lt_of_heap hb2')).trans hb2'
 have hrowW := hrow1.below bE
 have hown : ∀ g, (Value.slice ao n co).ownBlock = some g → g < w1.heap.size := fun g e => (hrow1.own_lt g e).2
 clear hW
 have HE0 := Lib.hid hE
 have HB2 := Lib.hid hb2W
 have HRW := Lib.hid hrowW
 have HOWN := Lib.hid hown
 obtain ⟨-, -, -, -, -, -, -, p7⟩ := eight hb2W
 obtain ⟨d0, d1, d2, d3, d4, d5, d6, d7⟩ := eight hE
 clear hb0 hb1 hb2 hrow1 hE hb2W hrowW hown
 have hlB : B + 2 < W.heap.size := by omega
 have hown0 : ∀ g, (Value.slice ao n co).ownBlock = some g → B + 3 ≤ g ∧ g < wx.heap.size := HROW.out.own_lt
 have HOWN0 := Lib.hid hown0
 have hlt' : (n : Int) < (n : Int) + 1 := by omega
 clear hown0
 go_region_law
   (first | (refine Tre.step_push4 (by rfl) _ _ (by rfl) (B + 3) W.heap.size HKN.out (by rfl) (by rfl) (new8 W.drew zerosL rfl) ((HRW.out.below (drew_below W)).below ((Below.refl _ W.drew).alloc (Nat.le_refl _) _)) (zeros_hold _ _) (by omega) (fun g e => Nat.lt_trans (HOWN.out g e) hWz) (fun g e => by cases e) (by omega) (by simp; omega) ?_; intro g4 cap4 w4 hR4 hg4 hg4'; have bl : ∀ b o, W.heap[b]? = some o → (∀ g, (Value.slice ao n co).ownBlock = some g → b ≠ g) → w4.heap[b]? = some o := (fun b o h hne => (hg4.block b (by have := lt_of_heap h; simp; omega) (fun e => hne b e.symm rfl)).trans (new_of (show W.drew.heap[b]? = some o from h) _)); have hb2_4 := bl _ _ HB2.out (fun g e => by have := (HOWN0.out g e).1; omega); have hE_4 := bl _ _ HE0.out (fun g e => by have := HOWN.out g e; omega); obtain ⟨hgB, -, hnc, cur, hcur, hcz, -⟩ := hR4.block; obtain ⟨z0, z1, z2, z3, z4, z5, z6, z7, m0, m1, m2, m3, m4, m5, m6, m7⟩ := Tre.block8 hcur (o := n * 8) (by omega); have y0 := free_of hcur (n * 8); have y1 := free_of hcur (n * 8 + 1); have y2 := free_of hcur (n * 8 + 2); have y3 := free_of hcur (n * 8 + 3); have y4 := free_of hcur (n * 8 + 4); have y5 := free_of hcur (n * 8 + 5); have y6 := free_of hcur (n * 8 + 6); have y7 := free_of hcur (n * 8 + 7); have f7 := free_of hb2_4 7; have c7 := cell_of hb2_4 7; have hne4 : ¬ g4 = B + 2 := (by omega); have HCUR := Lib.hid hcur; have HCZ := Lib.hid hcz; have HBL := Lib.hid bl; have HR4 := Lib.hid hR4; have HG4 := Lib.hid hg4; have HG5 := Lib.hid hg4'; clear hcur hcz bl hR4 hg4 hg4' hb2_4 hE_4))
 all_goals
   have hb2_4 := HBL.out _ _ HB2.out (fun g e => by have := (HOWN0.out g e).1; omega)
   have hb0_4 := HBL.out _ _ ((bE.block _ (lt_of_heap hb0')).trans hb0') (fun g e => by have := (HOWN0.out g e).1; omega)
   have hb1_4 := HBL.out _ _ ((bE.block _ (lt_of_heap hb1')).trans hb1') (fun g e => by have := (HOWN0.out g e).1; omega)
   have hr4 : ∀ (q : Nat) (o' : Int), Rdr R s q o' u w1 → Rdr R s q o' u w4 := fun q o' h => HBL.out _ _ ((bE.block _ (lt_of_heap h)).trans h) (fun g e => by have := (HOWN0.out g e).1; omega)
   have hz4 : B + 3 ≤ w4.heap.size := Nat.le_trans (by simp; omega) HG4.out.size
   have x4 : Off (fun i => i = R ∨ B + 2 ≤ i) wx w4 := by
     refine ((Off.of_grown HG1.out (.inl (.inl rfl))).trans ((Off.of_below bE).trans (.of_below (drew_below W)))).trans ⟨HG4.out.os, HG4.out.tape, HG4.out.output, Nat.le_trans (by simp) HG4.out.size, fun i hi hx => ?_⟩
     refine (HG4.out.block i (by simp at hi ⊢; omega) fun e => ?_).trans (Below.heap_alloc _ _ _ hi)
     have := (HOWN0.out i e.symm).1
     omega
   have hP : HoldP (fun q => B + 3 ≤ q ∧ q ≠ g4) w4 [.int .i64 k0, .bool b0, .bool n0.neg, .string (txt n0.dig), .int .i64 n0.exp, .string (txt t0), .slice pk lk ck, .slice ak lv cc] z := by
     obtain ⟨cs', hcs, hp⟩ := HZF.out
     obtain rfl : cs' = [.int .i64 k0, .bool b0, .bool n0.neg, .string (txt n0.dig), .int .i64 n0.exp, .string (txt t0), .slice pk lk ck, .slice ak lv cc] := by
       injection hcs with hcs
       have := congrArg Array.toList hcs
       simpa using this.symm
     have ne4 : ∀ q, wx.heap.size ≤ q ∧ q < w1.heap.size → q ≠ g4 := fun q hq e => by
       subst e
       rcases HG5.out with e | e
       · have := (HOWN0.out _ e).2
         omega
       · simp at e
         omega
     have kp : ∀ q, wx.heap.size ≤ q ∧ q < w1.heap.size → q < w1.heap.size → w4.heap[q]? = w1.heap[q]? := fun q hq hlt => by
       obtain ⟨ob, ho⟩ : ∃ ob, w1.heap[q]? = some ob := ⟨_, Array.getElem?_eq_getElem hlt⟩
       rw [ho]
       exact HBL.out _ _ ((bE.block _ hlt).trans ho) (fun g e => by have := (HOWN0.out g e).2; omega)
     exact HoldP.mono (X := fun q => wx.heap.size ≤ q ∧ q < w1.heap.size) (fun q hq _ => ⟨by omega, ne4 q hq⟩) z (HoldP.keep (w := w1) (by have := HG4.out.size; simp at this; omega) kp z (HoldP.mono (fun q hq hlt => ⟨hq, hlt⟩) z hp))
   obtain ⟨fA, fB⟩ := list_fin HR4.out HKN.out hb0_4 hb1_4 hb2_4 hz4 hP hRB
   have told : ∀ wf, Fin B R w4 (StL B R [] (kids ++ [z])) wf → Off (fun i => i = R ∨ B + 2 ≤ i) wx wf ∧ ReadTold R s u o (StL B R) kids pg (.returned (.int .i64 ek)) wf := fun wf hf => by
     refine ⟨x4.trans hf.1, ?_⟩
     rcases HC.out with ⟨r, hg, he, hr⟩ | ⟨r, k, hg, he, o', hr⟩
     · rw [HPG.out, hg, he]
       exact ⟨rfl, hf.2.1 _ (hr4 _ _ hr), hf.2.2⟩
     · rw [HPG.out, hg, he]
       exact ⟨HGN.out _ _ hg, rfl, o', hf.2.1 _ (hr4 _ _ hr)⟩
   have tA := told _ fA
   have tB := told _ fB
   unfold put8 at tA tB
   have HTA := Lib.hid tA
   have HTB := Lib.hid tB
   clear fA fB told tA tB hP x4 hz4 hr4 hb0_4 hb1_4 hb2_4
   clear bE hb0' hb1' hb2' hw1z hWz m0 m1 m2 m3 m4 m5 m6 m7 y0 y1 y2 y3 y4 y5 y6 y7 f7 c7 hlt' hne4 hlB hz hk z0 z1 z2 z3 z4 z5 z6 z7 p7 d0 d1 d2 d3 d4 d5 d6 d7
   go_wp2_with fail
   refine bodyPost_ret (v := .int .i64 ek) (by simp [results, Tryz.results64, go_sem]) rfl ?_
   first | with_reducible exact HTA.out | with_reducible exact HTB.out
end Go.Proofs.YtlfbnfphocpgeaaGreatDoor.Jdec
namespace Go.Proofs.YtlfbnfphocpgeaaGreatDoor.Tre
open Go.RowKit Kit Txt
open Num (Dec zero)
theorem own_of {g m c q : Nat} (e : (Value.slice (some ⟨g, 0, none⟩) m c).ownBlock = some q) : q = g := by
 have h : g = q := by simpa [Value.ownBlock] using e
 exact h.symm
theorem rowT_lt {B : Nat} {w : World} {u : Value} {ls : List (List UInt8)} (h : RowT B w u ls) : ∀ g, u.ownBlock = some g → B ≤ g ∧ g < w.heap.size := by
 intro g hg
 rcases h.2 with ⟨rfl, _⟩ | ⟨g', cap, cur, rfl, hg', hb, _⟩
 · cases hg
 · have e : g' = g := by simpa [Value.ownBlock] using hg
   subst e
   exact ⟨hg', lt_of_heap hb⟩
theorem rowT_slice {B : Nat} {w : World} {u : Value} {ls : List (List UInt8)} (h : RowT B w u ls) : ∃ a c, u = .slice a ls.length c := by
 obtain ⟨a, c, hu, _⟩ := h.holds
 exact ⟨a, c, hu⟩
theorem rowC_slice {N : Option Nat} {B : Nat} {w : World} {u : Value} {vs : List Val} {cs : List (List Value)} (h : RowC N B w u vs cs) : ∃ a c, u = .slice a vs.length c := by
 obtain ⟨a, c, hu, _⟩ := h.holds
 exact ⟨a, c, hu⟩
theorem rows_diff {B : Nat} {w : World} {u1 u2 : Value} {M : Option Nat} {ls : List (List UInt8)} {vs : List Val} {cs : List (List Value)} (h1 : RowT B w u1 ls) (h2 : RowC M B w u2 vs cs) : ∀ g, u2.ownBlock = some g → u1.ownBlock ≠ some g := by
 intro g e2 e1
 rcases h1.2 with ⟨rfl, _⟩ | ⟨g1, c1, k1, rfl, _, hb1, _⟩
 · cases e1
 · rcases h2.2.1.2 with ⟨rfl, _⟩ | ⟨g2, c2, k2, rfl, _, hb2, _⟩
   · cases e2
   · have a1 : g1 = g := by simpa [Value.ownBlock] using e1
     have a2 : g2 = g := by simpa [Value.ownBlock] using e2
     subst a1; subst a2
     rw [hb1] at hb2
     injection hb2 with hb2
     injection hb2 with _ ht _
     exact absurd ht (by decide)
theorem rowT_apart {B : Nat} {w w' : World} {u1 u2 : Value} {M : Option Nat} {ls : List (List UInt8)} {vs : List Val} {cs : List (List Value)} (h1 : RowT B w u1 ls) (h2 : RowC M B w u2 vs cs) (b : w.grownBy w' u2.ownBlock) : RowT B w' u1 ls := by
 refine World.ownsRow.kept h1 b ?_
 cases e : u1.ownBlock with
 | none => exact .inl rfl
 | some g => exact .inr fun h => rows_diff h1 h2 g h.symm e
theorem RowC.push2 {N : Option Nat} {B : Nat} {w w' : World} {u u' : Value} {vs : List Val} {v : Val} {c : List Value} {cs : List (List Value)} {g' : Nat} (h : RowC N B w u vs cs) (hv : HoldP (fun q => B ≤ q ∧ u.ownBlock ≠ some q ∧ N ≠ some q) w c v)
   (hown : w'.ownsRow B 29 8 u' (vs.length + 1) (cs.flatten ++ c)) (hg : w.grownBy w' u.ownBlock) (hu : u'.ownBlock = some g') (hg' : u.ownBlock = some g' ∨ g' = w.heap.size) : RowC N B w' u' (vs ++ [v]) (cs ++ [c]) := by
 obtain ⟨hl, _, hh⟩ := h
 have hne : ∀ g, u.ownBlock ≠ some g → g < w.heap.size → u'.ownBlock ≠ some g := fun g h1 h2 e => by
   rw [hu] at e
   cases e
   rcases hg' with e | e
   · exact h1 e
   · omega
 have fin : ∀ {c3 : List Value} {v3 : Val}, HoldP (fun g => B ≤ g ∧ u.ownBlock ≠ some g ∧ N ≠ some g) w c3 v3 → HoldP (fun g => B ≤ g ∧ u'.ownBlock ≠ some g ∧ N ≠ some g) w' c3 v3 := fun {c3 v3} hc =>
   HoldP.mono (X := fun g => B ≤ g ∧ u.ownBlock ≠ some g ∧ u'.ownBlock ≠ some g ∧ N ≠ some g) (fun g h _ => ⟨h.1, h.2.2.1, h.2.2.2⟩) v3 (HoldP.keep hg.size (fun g hX hlt => hg.block g hlt (fun e => hX.2.1 e.symm)) v3 (HoldP.mono (fun g hX hlt => ⟨hX.1, hX.2.1, hne g hX.2.1 hlt, hX.2.2⟩) v3 hc))
 refine ⟨by simp [hl], by simpa using hown, fun i c2 v2 h1 h2 => ?_⟩
 by_cases hi : i < cs.length
 · rw [List.getElem?_append_left hi] at h1
   rw [List.getElem?_append_left (by omega)] at h2
   exact fin (hh i c2 v2 h1 h2)
 · have hi' : i = cs.length := by
     have := (List.getElem?_eq_some_iff.1 h1).1
     simp at this
     omega
   subst hi'
   rw [List.getElem?_append_right (Nat.le_refl _)] at h1
   rw [List.getElem?_append_right (by omega)] at h2
   rw [Nat.sub_self] at h1
   rw [show cs.length - vs.length = 0 by omega] at h2
   simp at h1 h2
   subst h1; subst h2
   exact fin hv
structure Rows2 (B : Nat) (L : List (Nat × Obj)) (w : World) (uk : Value) (keys : List (List UInt8)) (uv : Value) (kids : List Val) (cs : List (List Value)) (c : List Value) (z : Val) : Prop where
 base : B ≤ w.heap.size
 T : RowT B w uk keys
 C : RowC uk.ownBlock B w uv kids cs
 P : HoldP (fun q => B ≤ q ∧ uv.ownBlock ≠ some q ∧ uk.ownBlock ≠ some q) w c z
 box : ∀ e ∈ L, w.heap[e.1]? = some e.2 ∧ uv.ownBlock ≠ some e.1 ∧ uk.ownBlock ≠ some e.1
theorem Rows2.get {B : Nat} {L : List (Nat × Obj)} {w : World} {uk uv : Value} {keys : List (List UInt8)} {kids : List Val} {cs : List (List Value)} {c : List Value} {z : Val} (h : Rows2 B L w uk keys uv kids cs c z) {i : Nat} {o : Obj} (hm : (i, o) ∈ L) : w.heap[i]? = some o := (h.box _ hm).1
theorem Rows2.below {B : Nat} {L : List (Nat × Obj)} {w w' : World} {uk uv : Value} {keys : List (List UInt8)} {kids : List Val} {cs : List (List Value)} {c : List Value} {z : Val} (h : Rows2 B L w uk keys uv kids cs c z) (b : Below w.heap.size w w') : Rows2 B L w' uk keys uv kids cs c z :=
 ⟨Nat.le_trans h.base b.size, h.T.below b, h.C.below b, HoldP.keep b.size (fun g _ hg => b.block g hg) z h.P, fun e he => ⟨(b.block _ (lt_of_heap (h.box e he).1)).trans (h.box e he).1, (h.box e he).2⟩⟩
theorem Rows2.add {B : Nat} {L : List (Nat × Obj)} {w : World} {uk uv : Value} {keys : List (List UInt8)} {kids : List Val} {cs : List (List Value)} {c : List Value} {z : Val} (h : Rows2 B L w uk keys uv kids cs c z) (o : Obj) : Rows2 B ((w.heap.size, o) :: L) (w.alloc o) uk keys uv kids cs c z := by
 have h2 := h.below ((Below.refl _ w).alloc (Nat.le_refl _) o)
 refine ⟨h2.base, h2.T, h2.C, h2.P, fun e he => ?_⟩
 rcases List.mem_cons.1 he with he | he
 · subst he
   refine ⟨World.alloc_heap_new w o, fun e => ?_, fun e => ?_⟩
   · have := (h.C.own_lt _ e).2
     omega
   · have := (rowT_lt h.T _ e).2
     omega
 · exact h2.box e he
theorem grown_below2 {B : Nat} {w w' : World} {row : Option Nat} (h : w.grownBy w' row) (hB : B ≤ w.heap.size) (hr : ∀ g, row = some g → B ≤ g) : Below B w w' :=
 ⟨h.os, h.tape, h.output, h.size, fun k hk => h.block k (by omega) (fun e => by have := hr k e.symm; omega)⟩
theorem step_keys {ops : Array Oper} {o : Oper} {a : Act} {w : World} {K : Act → World → Prop} {Q : Exit → Act → World → Prop} {E0 : Prop} (hgd : o.guard = none) (s x : Operand)
   (ho : o.op = .call { callee := .builtin .append, args := #[s, x], argTypes := #[26, 26] }) {B : Nat} {L : List (Nat × Obj)} {uk uv : Value} {keys : List (List UInt8)} {kids : List Val} {cs : List (List Value)} {c : List Value} {z : Val} {l : List UInt8} {N cap m : Nat} (hm : keys.length = m) (hs : a.eval s = uk) (hx : a.eval x = .slice (some ⟨N, 0, none⟩) 1 cap)
   (h : Rows2 B L w uk keys uv kids cs c z) (hN : (N, Obj.cells #[.string (txt l)] 9 (0, 0)) ∈ L) (hn : m < 1000000)
   (hK : ∀ g cap' w', Rows2 B L w' (.slice (some ⟨g, 0, none⟩) (m + 1) cap') (keys ++ [l]) uv kids cs c z → Below B w w' → K (a.put o.dst (.slice (some ⟨g, 0, none⟩) (m + 1) cap')) w') :
   if Region.wanted o (yielded ops a.tmps) = true then Oper.wp Tryz.prog o a w K Q else E0 := by
 refine step_pushT hgd s x ho B hm hs hx (cell_of (h.get hN) 0) h.T hn h.base fun g cap' w' hT hg hg' => hK g cap' w' ⟨Nat.le_trans h.base hg.size, hT, ?_, ?_, ?_⟩ (grown_below2 hg h.base fun g e => (rowT_lt h.T g e).1)
 · exact h.C.renew hg (fun g e => rows_diff h.T h.C g e) (fun g' e => by
     have e' : g = g' := by simpa [Value.ownBlock] using e
     subst e'
     exact hg')
 · have h1 := HoldP.mono (Y := fun q => B ≤ q ∧ uv.ownBlock ≠ some q ∧ uk.ownBlock ≠ some q ∧ q ≠ g) (fun q hq hlt => ⟨hq.1, hq.2.1, hq.2.2, fun e => by
     subst e
     rcases hg' with e | e
     · exact hq.2.2 e
     · omega⟩) z h.P
   exact HoldP.mono (fun q hq _ => ⟨hq.1, hq.2.1, fun e => hq.2.2.2 (own_of e)⟩) z (HoldP.keep hg.size (fun q hq hlt => hg.block q hlt (fun e => hq.2.2.1 e.symm)) z h1)
 · intro e he
   obtain ⟨b1, b2, b3⟩ := h.box e he
   refine ⟨(hg.block _ (lt_of_heap b1) (fun e => b3 e.symm)).trans b1, b2, fun e2 => ?_⟩
   have e' := own_of e2
   rcases hg' with e3 | e3
   · exact b3 (by rw [e']; exact e3)
   · have := lt_of_heap b1
     omega
theorem step_kids {ops : Array Oper} {o : Oper} {a : Act} {w : World} {K : Act → World → Prop} {Q : Exit → Act → World → Prop} {E0 : Prop} (hgd : o.guard = none) (s x : Operand)
   (ho : o.op = .call { callee := .builtin .append, args := #[s, x], argTypes := #[27, 27] }) {B : Nat} {L : List (Nat × Obj)} {uk uv : Value} {keys : List (List UInt8)} {kids : List Val} {cs : List (List Value)} {c : List Value} {z : Val} {N cap m : Nat} (hm : kids.length = m) (hs : a.eval s = uv) (hx : a.eval x = .slice (some ⟨N, 0, none⟩) 1 cap)
   (h : Rows2 B L w uk keys uv kids cs c z) (hN : (N, Obj.cells c.toArray 29 (0, 0)) ∈ L) (hn : m < 1000000)
   (hK : ∀ g cap' w', Rows2 B L w' uk keys (.slice (some ⟨g, 0, none⟩) (m + 1) cap') (kids ++ [z]) (cs ++ [c]) c z → Below B w w' → K (a.put o.dst (.slice (some ⟨g, 0, none⟩) (m + 1) cap')) w') :
   if Region.wanted o (yielded ops a.tmps) = true then Oper.wp Tryz.prog o a w K Q else E0 := by
 subst hm
 obtain ⟨i0, hi, hz0, hz1, hz2⟩ := info_parts infoValue
 have hc8 := holdP_len h.P
 refine step_append_lies w hgd s x 27 ho B 29 i0 zeroV 8 112 Tryz.underlying27 hi hz0 hz1 hz2 rfl (by decide) uv kids.length cs.flatten hs h.C.2.1 ⟨N, 0, none⟩ 1 cap c hx (by omega) ?_ (holdP_one h.P) (by decide) (by unfold maxLen; omega) (by omega) h.base w.heap.size rfl ?_
 · intro j y hy
   rw [addr_at, cell_of (h.get hN)]
   simpa using hy
 · intro g cap' w' h2 hg hg' _
   refine hK g cap' w' ⟨Nat.le_trans h.base hg.size, rowT_apart h.T h.C hg, h.C.push2 h.P h2 hg rfl hg', ?_, ?_⟩ (grown_below2 hg h.base fun g e => (h.C.own_lt g e).1)
   · have h1 := HoldP.mono (Y := fun q => B ≤ q ∧ uv.ownBlock ≠ some q ∧ uk.ownBlock ≠ some q ∧ q ≠ g) (fun q hq hlt => ⟨hq.1, hq.2.1, hq.2.2, fun e => by
       subst e
       rcases hg' with e | e
       · exact hq.2.1 e
       · omega⟩) z h.P
     exact HoldP.mono (fun q hq _ => ⟨hq.1, fun e => hq.2.2.2 (own_of e), hq.2.2.1⟩) z (HoldP.keep hg.size (fun q hq hlt => hg.block q hlt (fun e => hq.2.1 e.symm)) z h1)
   · intro e he
     obtain ⟨b1, b2, b3⟩ := h.box e he
     refine ⟨(hg.block _ (lt_of_heap b1) (fun e => b2 e.symm)).trans b1, fun e2 => ?_, b3⟩
     have e' := own_of e2
     rcases hg' with e3 | e3
     · exact b2 (by rw [e']; exact e3)
     · have := lt_of_heap b1
       omega
end Go.Proofs.YtlfbnfphocpgeaaGreatDoor.Tre
