/- A part of what is_holds leans on (its texts, put together). Nothing is claimed here. -/
import Derived.Laws.EntriesVeiled
import Derived.Test.YtlfbnfphocpgeaaGreatDoorIs25
import Derived.Test.YtlfbnfphocpgeaaGreatDoorIs26
namespace Go.Proofs.YtlfbnfphocpgeaaGreatDoor.Jdec
open Go.RowKit Kit Txt
open Utf (nb)
open Tre (Val HoldF HoldP zeroV RowC RowT Seen none')
theorem env_stays {G R B : Nat} {s : List UInt8} {q : Nat} {o : Int} {u : Value} {w0 : World} (h0 : Env G w0) (hr0 : Rdr R s q o u w0) (hB : B = w0.heap.size) : ∀ a b : World, Env G a → Off (fun i => i = R ∨ B + 2 ≤ i) a b → Env G b := fun a b ha k =>
 ha.off ⟨w0, h0, hr0⟩ k fun i hx hlt => hx.imp id fun h => ⟨w0, h0, by omega⟩
theorem made_hold {N : Option Nat} {B' S G : Nat} {a wf : World} {uk uv : Value} {keys : List (List UInt8)} {kids : List Val} {cs : List (List Value)} (obj : Bool) (hT : Tre.KsP (B' ≤ ·) a uk keys) (hC : RowC N B' a uv kids cs) (k : a.grownBy wf (some G)) (hG : G < B') (hS : S ≤ B') :
   HoldF S wf (.agg #[.int .i64 (if obj then 6 else 5), .bool false, .bool false, .string ⟨#[]⟩, .int .i64 0, .string ⟨#[]⟩, uk, uv]) (made obj keys kids) := by
 obtain ⟨a', c', rfl, h1, h2, h3⟩ := hC.holds
 have keep : ∀ g, B' ≤ g → g < a.heap.size → wf.heap[g]? = a.heap[g]? := fun g hg hlt => k.block g hlt (fun e => by cases e; omega)
 refine ⟨_, rfl, ?_⟩
 unfold made
 rw [Tre.HoldP]
 refine ⟨uk, a', c', rfl, (hT.keep k.size keep).mono (fun g hg _ => Nat.le_trans hS hg), h1, h2, h3.imp id ?_⟩
 rintro ⟨g, off, e, hg, hlt, hh⟩
 exact ⟨g, off, e, Nat.le_trans hS hg, Nat.lt_of_lt_of_le hlt k.size, Tre.HoldsP.mono (fun g hg _ => Nat.le_trans hS hg) kids (Tre.HoldsP.keep k.size keep kids hg hlt hh)⟩
theorem told_zero {R G q : Nat} {s : List UInt8} {u : Value} {o o' : Int} {w w1 : World} {g : Got Val} {r : List UInt8} {n : Nat} (hg : g = .no r n) (hq : s.length - r.length = q) (g1 : w.grownBy w1 (some R)) (hr : Rdr R s q o' u w1) {wf : World} (k : w1.grownBy wf (some G)) (hG : w.heap.size ≤ G) (hR : R < w.heap.size) : Told R s u o w g (.returned (.tuple #[zeroV, .int .i64 n])) wf :=
 .no hg hq (grown_on g1 k hG) (hr.kept k (by simp; omega))
set_option maxRecDepth 100000 in
set_option maxHeartbeats 16000000 in
theorem mlist_any {G R K : Nat} {s : List UInt8} {q : Nat} {o : Int} {u : Value} {w : World} (hs : s.length < 100000) (ho1 : 0 ≤ o) (ho2 : o ≤ 100) (hv : ValAt G R s u K (o + 1)) (h : Rdr R s q o u w) (hE : Env G w) (hq : q < s.length) (hhd : (s.drop q).head? = some 91) :
   Calls Tryz.prog 41 #[rp R] w (Told R s u o w (many (value K) (s.drop q))) := by
 have hR := lt_of_heap h
 obtain ⟨W, hW⟩ : ∃ W, ((w.alloc (.cells #[rp R] 80)).alloc (.cells #[.int .i64 0, .bool false, .bool false, .string ⟨#[]⟩, .int .i64 0, .string ⟨#[]⟩, .slice none 0 0, .slice none 0 0] 29)).alloc (.cells #[.int .i64 5, .bool false, .bool false, .string ⟨#[]⟩, .int .i64 0, .string ⟨#[]⟩, .slice none 0 0, .slice none 0 0] 29) = W := ⟨_, rfl⟩
 have bW : Below w.heap.size w W := by
   rw [← hW]
   exact (((Below.refl _ w).alloc (Nat.le_refl _) _).alloc (by simp) _).alloc (by simp; omega) _
 have zW : W.heap.size = w.heap.size + 3 := by rw [← hW]; simp
 have b0 : W.heap[w.heap.size]? = some (.cells #[rp R] 80 (0, 0)) := by rw [← hW]; exact new_of (new_of (World.alloc_heap_new _ _) _) _
 have b1 : W.heap[w.heap.size + 1]? = some (.cells #[.int .i64 0, .bool false, .bool false, .string ⟨#[]⟩, .int .i64 0, .string ⟨#[]⟩, .slice none 0 0, .slice none 0 0] 29 (0, 0)) := by
   rw [← hW]
   have := World.alloc_heap_new (w.alloc (.cells #[rp R] 80)) (.cells #[.int .i64 0, .bool false, .bool false, .string ⟨#[]⟩, .int .i64 0, .string ⟨#[]⟩, .slice none 0 0, .slice none 0 0] 29)
   rw [World.size_alloc] at this
   exact new_of this _
 have b2 : W.heap[w.heap.size + 2]? = some (.cells #[.int .i64 5, .bool false, .bool false, .string ⟨#[]⟩, .int .i64 0, .string ⟨#[]⟩, .slice none 0 0, .slice none 0 0] 29 (0, 0)) := by
   rw [← hW]
   have := World.alloc_heap_new ((w.alloc (.cells #[rp R] 80)).alloc (.cells #[.int .i64 0, .bool false, .bool false, .string ⟨#[]⟩, .int .i64 0, .string ⟨#[]⟩, .slice none 0 0, .slice none 0 0] 29)) (.cells #[.int .i64 5, .bool false, .bool false, .string ⟨#[]⟩, .int .i64 0, .string ⟨#[]⟩, .slice none 0 0, .slice none 0 0] 29)
   rw [World.size_alloc, World.size_alloc] at this
   exact this
 have hKI := env_stays hE h (B := w.heap.size) rfl
 have hst : StL w.heap.size R [] [] W := ⟨rfl, b0, b1, by omega, .slice none 0 0, [], b2, RowC.nil _ _ _⟩
 have hp := mparts_any (k := 64) (caps := #[.pointer (some ⟨w.heap.size, 0, none⟩), .pointer (some ⟨w.heap.size + 2, 0, none⟩)]) (x0 := 93) (w := W) (value_good K) (obj := false) (B := w.heap.size) (X := fun i => i = R ∨ w.heap.size + 2 ≤ i) (.inl rfl) (StL w.heap.size R) (Env G) hs ho1 ho2 bW.size hR hKI (fun keys kids a b hs hk => hs.keep hR hk)
   (fun wx p keys kids hh => mlist1_any hv hR hh.1 hh.2.1 hh.2.2.2.1 hh.2.2.2.2.1 hh.2.2.2.2.2.1) (fun wx => rfl) (h.below bW) hq hhd hst (hE.below bW) rfl
 have hgn : ∀ r n, many (value K) (s.drop q) = .no r n → n ≠ 0 := fun r n e => by
   have := many_good (value_good K) (l := s.drop q) (fun e => by rw [e] at hhd; cases hhd)
   rw [e] at this
   exact this.2
 generalize many (value K) (s.drop q) = g at *
 have HGN := Lib.hid hgn
 clear hgn
 have hc0 := cell_of b0 0
 have HW := Lib.hid hW
 have HP := Lib.hid hp
 have HBW := Lib.hid bW
 clear hW hp hst hv h hE b0 b2 bW hhd hq hKI
 unfold rp at HP HW hc0
 unfold rp
 go_enter Tryz.func41, Tryz.ntmps41
 go_wp2_with fail
 rw [HW.out]
 go_wp2_with fail
 refine HP.out.mono ?_
 rintro e w1 ⟨xP, hP⟩
 have hb1' := xP.at b1 (by omega)
 have g2 : w.grownBy w1 (some R) := ((Off.of_below HBW.out).trans xP).grown (fun i hi hx => by omega)
 cases g with
 | no r n =>
   obtain ⟨rfl, o', hr⟩ := hP
   have hn0 := HGN.out r n rfl
   have hne : (((n : Nat) : Int) != 0) = true := by simpa using hn0
   have hB2 := store8 hb1' (.int .i64 0) (.bool false) (.bool false) (.string ⟨#[]⟩) (.int .i64 0) (.string ⟨#[]⟩) (.slice none 0 0) (.slice none 0 0)
   have k3 := grown8 w1 (w.heap.size + 1) (.int .i64 0) (.bool false) (.bool false) (.string ⟨#[]⟩) (.int .i64 0) (.string ⟨#[]⟩) (.slice none 0 0) (.slice none 0 0)
   have hT := told_zero (o := o) (n := n) (g := Got.no r n) rfl rfl g2 hr k3 (by omega) hR
   obtain ⟨e0, e1, e2, e3, e4, e5, e6, e7⟩ := eight hb1'
   obtain ⟨f0, f1, f2, f3, f4, f5, f6, f7⟩ := free8 hb1'
   have HB := Lib.hid hB2
   have HT := Lib.hid hT
   clear hB2 hT k3 xP hr hn0 g2 hb1' b1
   go_wp2_with fail
   obtain ⟨d0, d1, d2, d3, d4, d5, d6, d7⟩ := eight HB.out
   refine bodyPost_ret (v := .tuple #[zeroV, .int .i64 n]) (by simp [results, Tryz.results41, go_sem, zeroV, d0, d1, d2, d3, d4, d5, d6, d7]) rfl ?_
   exact HT.out
 | ok v r =>
   obtain ⟨rfl, hr, keys, kids, hv, hst⟩ := hP
   obtain ⟨hk0, hb0', hb1'', hz', uu, cs, hb2', hrow⟩ := hst
   obtain ⟨av, cv, hav⟩ := Tre.rowC_slice hrow
   subst hk0; subst hav; subst hv
   have hB2 := store8 hb1' (.int .i64 5) (.bool false) (.bool false) (.string ⟨#[]⟩) (.int .i64 0) (.string ⟨#[]⟩) (.slice none 0 0) (.slice av kids.length cv)
   have k3 := grown8 w1 (w.heap.size + 1) (.int .i64 5) (.bool false) (.bool false) (.string ⟨#[]⟩) (.int .i64 0) (.string ⟨#[]⟩) (.slice none 0 0) (.slice av kids.length cv)
   have hH := made_hold (S := w.heap.size) false (keys := []) (uk := .slice none 0 0) ⟨none, 0, rfl, Nat.le_refl _, by omega, .inl rfl⟩ hrow k3 (by omega) (by omega)
   have hT : Told R s u o w (.ok (made false [] kids) r) (.returned (.tuple #[.agg #[.int .i64 5, .bool false, .bool false, .string ⟨#[]⟩, .int .i64 0, .string ⟨#[]⟩, .slice none 0 0, .slice av kids.length cv], .int .i64 0])) _ := .ok rfl rfl (grown_on g2 k3 (by omega)) hH (hr.kept k3 (by simp; omega))
   obtain ⟨e0, e1, e2, e3, e4, e5, e6, e7⟩ := eight hb1'
   obtain ⟨f0, f1, f2, f3, f4, f5, f6, f7⟩ := free8 hb1'
   obtain ⟨a0, a1, a2, a3, a4, a5, a6, a7⟩ := eight hb2'
   have HB := Lib.hid hB2
   have HT := Lib.hid hT
   clear hB2 hT k3 xP hr g2 hb1' b1 hH hrow hb2' hb1'' hb0' hz'
   generalize kids.length = nk at *
   go_wp2_with fail
   obtain ⟨d0, d1, d2, d3, d4, d5, d6, d7⟩ := eight HB.out
   refine bodyPost_ret (v := .tuple #[.agg #[.int .i64 5, .bool false, .bool false, .string ⟨#[]⟩, .int .i64 0, .string ⟨#[]⟩, .slice none 0 0, .slice av nk cv], .int .i64 0]) (by simp [results, Tryz.results41, go_sem, d0, d1, d2, d3, d4, d5, d6, d7]) rfl ?_
   exact HT.out
set_option maxRecDepth 100000 in
set_option maxHeartbeats 16000000 in
theorem mobject_any {G R K : Nat} {s : List UInt8} {q : Nat} {o : Int} {u : Value} {w : World} (hs : s.length < 100000) (ho1 : 0 ≤ o) (ho2 : o ≤ 100) (hv : ValAt G R s u K (o + 1)) (h : Rdr R s q o u w) (hE : Env G w) (hq : q < s.length) (hhd : (s.drop q).head? = some 123) :
   Calls Tryz.prog 40 #[rp R] w (Told R s u o w (many (value K) (s.drop q))) := by
 have hR := lt_of_heap h
 obtain ⟨W3, hW3⟩ : ∃ W3, ((w.alloc (.cells #[rp R] 80)).alloc (.cells #[.int .i64 0, .bool false, .bool false, .string ⟨#[]⟩, .int .i64 0, .string ⟨#[]⟩, .slice none 0 0, .slice none 0 0] 29)).alloc (.cells #[.int .i64 6, .bool false, .bool false, .string ⟨#[]⟩, .int .i64 0, .string ⟨#[]⟩, .slice none 0 0, .slice none 0 0] 29) = W3 := ⟨_, rfl⟩
 have bW3 : Below w.heap.size w W3 := by
   rw [← hW3]
   exact (((Below.refl _ w).alloc (Nat.le_refl _) _).alloc (by simp) _).alloc (by simp; omega) _
 have zW3 : W3.heap.size = w.heap.size + 3 := by rw [← hW3]; simp
 have b0 : W3.heap[w.heap.size]? = some (.cells #[rp R] 80 (0, 0)) := by rw [← hW3]; exact new_of (new_of (World.alloc_heap_new _ _) _) _
 have b1 : W3.heap[w.heap.size + 1]? = some (.cells #[.int .i64 0, .bool false, .bool false, .string ⟨#[]⟩, .int .i64 0, .string ⟨#[]⟩, .slice none 0 0, .slice none 0 0] 29 (0, 0)) := by
   rw [← hW3]
   have := World.alloc_heap_new (w.alloc (.cells #[rp R] 80)) (.cells #[.int .i64 0, .bool false, .bool false, .string ⟨#[]⟩, .int .i64 0, .string ⟨#[]⟩, .slice none 0 0, .slice none 0 0] 29)
   rw [World.size_alloc] at this
   exact new_of this _
 have b2 : W3.heap[w.heap.size + 2]? = some (.cells #[.int .i64 6, .bool false, .bool false, .string ⟨#[]⟩, .int .i64 0, .string ⟨#[]⟩, .slice none 0 0, .slice none 0 0] 29 (0, 0)) := by
   rw [← hW3]
   have := World.alloc_heap_new ((w.alloc (.cells #[rp R] 80)).alloc (.cells #[.int .i64 0, .bool false, .bool false, .string ⟨#[]⟩, .int .i64 0, .string ⟨#[]⟩, .slice none 0 0, .slice none 0 0] 29)) (.cells #[.int .i64 6, .bool false, .bool false, .string ⟨#[]⟩, .int .i64 0, .string ⟨#[]⟩, .slice none 0 0, .slice none 0 0] 29)
   rw [World.size_alloc, World.size_alloc] at this
   exact this
 have hS3 := Tre.Seen.made W3 []
 rw [zW3] at hS3
 obtain ⟨W, hW⟩ : ∃ W, (W3.alloc (.map #[] 0)).alloc (.cells #[.map (some (w.heap.size + 1 + 1 + 1))] 95) = W := ⟨_, rfl⟩
 have bW : Below w.heap.size w W := by
   rw [← hW]
   exact (bW3.alloc (by omega) _).alloc (by simp; omega) _
 have zW : W.heap.size = w.heap.size + 5 := by rw [← hW]; simp; omega
 have b0 : W.heap[w.heap.size]? = some (.cells #[rp R] 80 (0, 0)) := by rw [← hW]; exact new_of (new_of b0 _) _
 have b1 : W.heap[w.heap.size + 1]? = some (.cells #[.int .i64 0, .bool false, .bool false, .string ⟨#[]⟩, .int .i64 0, .string ⟨#[]⟩, .slice none 0 0, .slice none 0 0] 29 (0, 0)) := by rw [← hW]; exact new_of (new_of b1 _) _
 have b2 : W.heap[w.heap.size + 2]? = some (.cells #[.int .i64 6, .bool false, .bool false, .string ⟨#[]⟩, .int .i64 0, .string ⟨#[]⟩, .slice none 0 0, .slice none 0 0] 29 (0, 0)) := by rw [← hW]; exact new_of (new_of b2 _) _
 have b4 : W.heap[w.heap.size + 4]? = some (.cells #[.map (some (w.heap.size + 1 + 1 + 1))] 95 (0, 0)) := by
   rw [← hW]
   have := World.alloc_heap_new (W3.alloc (.map #[] 0)) (.cells #[.map (some (w.heap.size + 1 + 1 + 1))] 95)
   rw [World.size_alloc, zW3] at this
   exact this
 have hSW : Seen W (w.heap.size + 3) 0 [] := by
   rw [← hW]
   exact hS3.grown ((Below.refl _ _).alloc (Nat.le_refl _) _)
 have hmm := @run_makeMap Tryz.prog
 have hKI := env_stays hE h (B := w.heap.size) rfl
 have hst : StO w.heap.size R [] [] W := ⟨rfl, b0, b1, by omega, b4, hSW, .slice none 0 0, .slice none 0 0, [], b2, RowT.nil _ _, RowC.nil _ _ _⟩
 have hp := mparts_any (k := 62) (caps := #[.pointer (some ⟨w.heap.size, 0, none⟩), .pointer (some ⟨w.heap.size + 4, 0, none⟩), .pointer (some ⟨w.heap.size + 2, 0, none⟩)]) (x0 := 125) (w := W) (value_good K) (obj := true) (B := w.heap.size) (X := fun i => i = R ∨ w.heap.size + 2 ≤ i) (.inl rfl) (StO w.heap.size R) (Env G) hs ho1 ho2 bW.size hR hKI (fun keys kids a b hs hk => hs.keep hR hk)
   (fun wx p keys kids hh => mobj1_any hs hv hR hh.1 hh.2.1 hh.2.2.2.1 hh.2.2.2.2.1 hh.2.2.2.2.2.1 (fun a b ha k => hKI a b ha k)) (fun wx => rfl) (h.below bW) hq hhd hst (hE.below bW) rfl
 have hgn : ∀ r n, many (value K) (s.drop q) = .no r n → n ≠ 0 := fun r n e => by
   have := many_good (value_good K) (l := s.drop q) (fun e => by rw [e] at hhd; cases hhd)
   rw [e] at this
   exact this.2
 generalize many (value K) (s.drop q) = g at *
 have HGN := Lib.hid hgn
 clear hgn
 have hc0 := cell_of b0 0
 have HW := Lib.hid hW
 have HW3 := Lib.hid hW3
 have HZ3 := Lib.hid zW3
 have HP := Lib.hid hp
 have HBW := Lib.hid bW
 clear hW hW3 hp hst hv h hE b0 b2 b4 bW bW3 hhd hq hKI hS3 hSW zW zW3
 unfold rp at HP HW3 hc0
 unfold rp
 go_enter Tryz.func40, Tryz.ntmps40
 go_wp2_with fail
 rw [HW3.out, HW.out]
 refine HP.out.mono ?_
 rintro e w1 ⟨xP, hP⟩
 have hb1' := xP.at b1 (by omega)
 have g2 : w.grownBy w1 (some R) := ((Off.of_below HBW.out).trans xP).grown (fun i hi hx => by omega)
 cases g with
 | no r n =>
   obtain ⟨rfl, o', hr⟩ := hP
   have hn0 := HGN.out r n rfl
   have hne : (((n : Nat) : Int) != 0) = true := by simpa using hn0
   have hB2 := store8 hb1' (.int .i64 0) (.bool false) (.bool false) (.string ⟨#[]⟩) (.int .i64 0) (.string ⟨#[]⟩) (.slice none 0 0) (.slice none 0 0)
   have k3 := grown8 w1 (w.heap.size + 1) (.int .i64 0) (.bool false) (.bool false) (.string ⟨#[]⟩) (.int .i64 0) (.string ⟨#[]⟩) (.slice none 0 0) (.slice none 0 0)
   have hT := told_zero (o := o) (n := n) (g := Got.no r n) rfl rfl g2 hr k3 (by omega) hR
   obtain ⟨e0, e1, e2, e3, e4, e5, e6, e7⟩ := eight hb1'
   obtain ⟨f0, f1, f2, f3, f4, f5, f6, f7⟩ := free8 hb1'
   have HB := Lib.hid hB2
   have HT := Lib.hid hT
   clear hB2 hT k3 xP hr hn0 g2 hb1' b1
   go_wp2_with fail
   obtain ⟨d0, d1, d2, d3, d4, d5, d6, d7⟩ := eight HB.out
   refine bodyPost_ret (v := .tuple #[zeroV, .int .i64 n]) (by simp [results, Tryz.results40, go_sem, zeroV, d0, d1, d2, d3, d4, d5, d6, d7]) rfl ?_
   exact HT.out
 | ok v r =>
   obtain ⟨rfl, hr, keys, kids, hv, hst⟩ := hP
   obtain ⟨hkl, hb0', hb1'', hz', hb4', hS', uk, uu, cs, hb2', hTr, hrow⟩ := hst
   obtain ⟨ak, ck, hak⟩ := Tre.rowT_slice hTr
   obtain ⟨av, cv, hav⟩ := Tre.rowC_slice hrow
   subst hak; subst hav; subst hv
   have hB2 := store8 hb1' (.int .i64 6) (.bool false) (.bool false) (.string ⟨#[]⟩) (.int .i64 0) (.string ⟨#[]⟩) (.slice ak keys.length ck) (.slice av kids.length cv)
   have k3 := grown8 w1 (w.heap.size + 1) (.int .i64 6) (.bool false) (.bool false) (.string ⟨#[]⟩) (.int .i64 0) (.string ⟨#[]⟩) (.slice ak keys.length ck) (.slice av kids.length cv)
   have hH := made_hold (S := w.heap.size) true hTr.holds hrow k3 (by omega) (by omega)
   have hT : Told R s u o w (.ok (made true keys kids) r) (.returned (.tuple #[.agg #[.int .i64 6, .bool false, .bool false, .string ⟨#[]⟩, .int .i64 0, .string ⟨#[]⟩, .slice ak keys.length ck, .slice av kids.length cv], .int .i64 0])) _ := .ok rfl rfl (grown_on g2 k3 (by omega)) hH (hr.kept k3 (by simp; omega))
   obtain ⟨e0, e1, e2, e3, e4, e5, e6, e7⟩ := eight hb1'
   obtain ⟨f0, f1, f2, f3, f4, f5, f6, f7⟩ := free8 hb1'
   obtain ⟨a0, a1, a2, a3, a4, a5, a6, a7⟩ := eight hb2'
   have HB := Lib.hid hB2
   have HT := Lib.hid hT
   clear hB2 hT k3 xP hr g2 hb1' b1 hH hrow hb2' hb1'' hb0' hz' hb4' hS' hTr hkl
   generalize kids.length = nk at *
   generalize keys.length = nkk at *
   go_wp2_with fail
   obtain ⟨d0, d1, d2, d3, d4, d5, d6, d7⟩ := eight HB.out
   refine bodyPost_ret (v := .tuple #[.agg #[.int .i64 6, .bool false, .bool false, .string ⟨#[]⟩, .int .i64 0, .string ⟨#[]⟩, .slice ak nkk ck, .slice av nk cv], .int .i64 0]) (by simp [results, Tryz.results40, go_sem, d0, d1, d2, d3, d4, d5, d6, d7]) rfl ?_
   exact HT.out
end Go.Proofs.YtlfbnfphocpgeaaGreatDoor.Jdec
namespace Go.Proofs.YtlfbnfphocpgeaaGreatDoor.Jdec
open Go.RowKit Kit Txt
open Utf (nb)
open Tre (Val HoldF zeroV)
def begL : Nat → List UInt8
 | 0 => [123]
 | 1 => [91]
 | 2 => [34]
 | 3 => [45, 48, 49, 50, 51, 52, 53, 54, 55, 56, 57]
 | 4 => [110]
 | 5 => [116]
 | 6 => [102]
 | _ => []
def kfn : Nat → FuncId
 | 0 => 40
 | 1 => 41
 | 2 => 42
 | 3 => 43
 | 4 => 44
 | 5 => 45
 | _ => 46
theorem kcs_at : ∀ i : _root_.Fin 7, kcs[i.val * 2]? = some (.string (txt (begL i.val))) ∧ kcs[i.val * 2 + 1]? = some (.func (.func (kfn i.val)) #[] #[]) := by
 intro i
 match i with
 | 0 => exact ⟨rfl, rfl⟩
 | 1 => exact ⟨rfl, rfl⟩
 | 2 => exact ⟨rfl, rfl⟩
 | 3 => exact ⟨rfl, rfl⟩
 | 4 => exact ⟨rfl, rfl⟩
 | 5 => exact ⟨rfl, rfl⟩
 | 6 => exact ⟨rfl, rfl⟩
theorem beg_idx : ∀ (i : _root_.Fin 7) (x : _root_.Fin 256), (UInt8.ofNat x.val ∈ begL i.val ∧ 0 ≤ Lib.indexByte (begL i.val) (UInt8.ofNat x.val)) ∨ (UInt8.ofNat x.val ∉ begL i.val ∧ Lib.indexByte (begL i.val) (UInt8.ofNat x.val) < 0) := by decide +kernel
theorem beg_cases {i : Nat} (hi : i < 7) (c : UInt8) : (c ∈ begL i ∧ 0 ≤ Lib.indexByte (begL i) c) ∨ (c ∉ begL i ∧ Lib.indexByte (begL i) c < 0) := by
 have h := beg_idx ⟨i, hi⟩ ⟨c.toNat, c.toNat_lt⟩
 dsimp only at h
 rwa [show UInt8.ofNat c.toNat = c from UInt8.ofNat_toNat] at h
theorem beg_all : ∀ x : _root_.Fin 256, (begins (UInt8.ofNat x.val) = true ∧ ∃ j : _root_.Fin 7, UInt8.ofNat x.val ∈ begL j.val) ∨ (begins (UInt8.ofNat x.val) = false ∧ ∀ j : _root_.Fin 7, UInt8.ofNat x.val ∉ begL j.val) := by decide +kernel
theorem begins_cases (c : UInt8) : (begins c = true ∧ ∃ j, j < 7 ∧ c ∈ begL j) ∨ (begins c = false ∧ ∀ j, j < 7 → c ∉ begL j) := by
 have h := beg_all ⟨c.toNat, c.toNat_lt⟩
 dsimp only at h
 rw [show UInt8.ofNat c.toNat = c from UInt8.ofNat_toNat] at h
 exact h.imp (fun ⟨h1, j, h2⟩ => ⟨h1, j.val, j.isLt, h2⟩) (fun ⟨h1, h2⟩ => ⟨h1, fun j hj => h2 ⟨j, hj⟩⟩)
theorem value_form {K : Nat} {l : List UInt8} {c : UInt8} (h : l.head? = some c) (hb : begins c = false) : value K l = .no l 3 := by
 cases K <;> simp [value, h, hb]
theorem value_deep {l : List UInt8} {c : UInt8} (h : l.head? = some c) (hb : begins c = true) : value 0 l = .no l 5 := by
 simp [value, h, hb]
theorem value_end (K : Nat) {l : List UInt8} (h : l = []) : value K l = .no l 2 := by
 subst h
 cases K <;> rfl
theorem value_succ {K : Nat} {l : List UInt8} {c : UInt8} (h : l.head? = some c) (hb : begins c = true) : value (K + 1) l = read (value K) l := by
 simp [value, h, hb]
theorem digit_all : ∀ x : _root_.Fin 256, UInt8.ofNat x.val ∈ begL 3 → digit (UInt8.ofNat x.val) = true := by decide +kernel
theorem digit_of {c : UInt8} (h : c ∈ begL 3) : digit c = true := by
 have h2 := digit_all ⟨c.toNat, c.toNat_lt⟩
 dsimp only at h2
 rw [show UInt8.ofNat c.toNat = c from UInt8.ofNat_toNat] at h2
 exact h2 h
def readK (val : List UInt8 → Got Val) (l : List UInt8) : Nat → Got Val
 | 0 => many val l
 | 1 => many val l
 | 2 => text l
 | 3 => number l
 | 4 => word ⟨1, false, Num.zero, [], [], []⟩ [110, 117, 108, 108] l
 | 5 => word ⟨2, true, Num.zero, [], [], []⟩ [116, 114, 117, 101] l
 | _ => word ⟨2, false, Num.zero, [], [], []⟩ [102, 97, 108, 115, 101] l
theorem read_of (val : List UInt8 → Got Val) {l : List UInt8} {c : UInt8} (h : l.head? = some c) {i : Nat} (hi : i < 7) (hc : c ∈ begL i) : read val l = readK val l i := by
 unfold read
 rw [h]
 dsimp only
 match i with
 | 0 =>
   have : c = 123 := by simpa [begL] using hc
   subst this
   rfl
 | 1 =>
   have : c = 91 := by simpa [begL] using hc
   subst this
   rfl
 | 2 =>
   have : c = 34 := by simpa [begL] using hc
   subst this
   rfl
 | 3 =>
   rw [if_pos (digit_of hc)]
   rfl
 | 4 =>
   have : c = 110 := by simpa [begL] using hc
   subst this
   rfl
 | 5 =>
   have : c = 116 := by simpa [begL] using hc
   subst this
   rfl
 | 6 =>
   have : c = 102 := by simpa [begL] using hc
   subst this
   rfl
theorem kfn_any {G R K : Nat} {s : List UInt8} {q : Nat} {u : Value} {w : World} {o : Int} (hs : s.length < 100000) (ho1 : 0 ≤ o) (ho2 : o ≤ 100) (hv : ValAt G R s u K (o + 1)) (h : Rdr R s q o u w) (hE : Env G w) (hq : q < s.length) {i : Nat} (hi : i < 7) (hc : s[q] ∈ begL i) :
   Calls Tryz.prog (kfn i) #[rp R] w (Told R s u o w (readK (value K) (s.drop q) i)) := by
 have hd : (s.drop q).head? = some s[q] := by rw [List.drop_eq_getElem_cons hq, List.head?_cons]
 match i with
 | 0 =>
   have e : s[q] = 123 := by simpa [begL] using hc
   rw [e] at hd
   exact mobject_any hs ho1 ho2 hv h hE hq hd
 | 1 =>
   have e : s[q] = 91 := by simpa [begL] using hc
   rw [e] at hd
   exact mlist_any hs ho1 ho2 hv h hE hq hd
 | 2 => exact mquoted_any hs (by omega) hE.utf h
 | 3 => exact mnumber_any hs (by omega) hE.tab h
 | 4 => exact mnull_any hs (by omega) h
 | 5 => exact myes_any hs (by omega) h
 | 6 => exact mno_any hs (by omega) h
set_option maxRecDepth 100000 in
theorem kfn_call {i : Nat} (hi : i < 7) (args : Array Value) (wx : World) : (callFunc (kfn i) args).run Tryz.prog wx = .ok (.enter (kfn i) args) wx := by
 match i with
 | 0 => rfl
 | 1 => rfl
 | 2 => rfl
 | 3 => rfl
 | 4 => rfl
 | 5 => rfl
 | 6 => rfl
set_option maxRecDepth 100000 in
set_option maxHeartbeats 16000000 in
theorem mvalue_step {G R K : Nat} {s : List UInt8} {q : Nat} {o : Int} {u : Value} {w : World} (hs : s.length < 100000) (hu : u = .slice (some ⟨G, 0, none⟩) 7 7) (hd : (K = 0 ∧ o = 64) ∨ (∃ K', K = K' + 1 ∧ (o == 64) = false ∧ 0 ≤ o ∧ o ≤ 100 ∧ ValAt G R s u K' (o + 1))) (h : Rdr R s q o u w) (hE : Env G w) (hq : q ≤ s.length) :
   Calls Tryz.prog 48 #[rp R] w (Told R s u o w (value K (s.drop q))) := by
 have hz := txt_size s
 have hR := lt_of_heap h
 have hB := World.alloc_heap_new w (.cells #[.int .i64 0, .bool false, .bool false, .string ⟨#[]⟩, .int .i64 0, .string ⟨#[]⟩, .slice none 0 0, .slice none 0 0] 29)
 have bA : Below w.heap.size w (w.alloc (.cells #[.int .i64 0, .bool false, .bool false, .string ⟨#[]⟩, .int .i64 0, .string ⟨#[]⟩, .slice none 0 0, .slice none 0 0] 29)) := (Below.refl _ w).alloc (Nat.le_refl _) _
 obtain ⟨c0, c1, c2, c3⟩ := four h
 have hGl := lt_of_heap hE.kin
 unfold rp
 by_cases hq2 : q < s.length
 case neg =>
   have hv := value_end K (show s.drop q = [] from List.drop_eq_nil_of_le (by omega))
   have heq : ((q : Int) == (s.length : Int)) = true := by simp; omega
   have hne : R ≠ w.heap.size := by omega
   have fin : ∀ wx, Below w.heap.size w wx → wx.heap[w.heap.size]? = some (.cells #[.int .i64 0, .bool false, .bool false, .string ⟨#[]⟩, .int .i64 0, .string ⟨#[]⟩, .slice none 0 0, .slice none 0 0] 29 (0, 0)) → ∀ wf, wx.grownBy wf (some w.heap.size) → Told R s u o w (value K (s.drop q)) (.returned (.tuple #[zeroV, .int .i64 2])) wf := fun wx b _ wf k =>
     told_zero (n := 2) hv (drop_at hq) (below_grown b) (h.below b) k (Nat.le_refl _) hR
   have HF := Lib.hid fin
   clear fin hv h hE hd hne
   go_enter Tryz.func48, Tryz.ntmps48
   go_wp2_with fail
   go_quiet (fail)
   have b9 := below_drewN bA nq
   have hB9 : ((w.alloc (.cells #[.int .i64 0, .bool false, .bool false, .string ⟨#[]⟩, .int .i64 0, .string ⟨#[]⟩, .slice none 0 0, .slice none 0 0] 29)).drewN nq).heap[w.heap.size]? = some (.cells #[.int .i64 0, .bool false, .bool false, .string ⟨#[]⟩, .int .i64 0, .string ⟨#[]⟩, .slice none 0 0, .slice none 0 0] 29 (0, 0)) := hB
   have hB10 := store8 hB9 (.int .i64 0) (.bool false) (.bool false) (.string ⟨#[]⟩) (.int .i64 0) (.string ⟨#[]⟩) (.slice none 0 0) (.slice none 0 0)
   have fin := HF.out _ b9 hB9 _ (grown8 _ w.heap.size (.int .i64 0) (.bool false) (.bool false) (.string ⟨#[]⟩) (.int .i64 0) (.string ⟨#[]⟩) (.slice none 0 0) (.slice none 0 0))
   have HB10 := Lib.hid hB10
   have HFIN := Lib.hid fin
   clear hB10 fin
   go_wp2_with fail
   obtain ⟨d0, d1, d2, d3, d4, d5, d6, d7⟩ := eight HB10.out
   refine bodyPost_ret (v := .tuple #[zeroV, .int .i64 2]) (by simp [results, Tryz.results48, go_sem, zeroV, d0, d1, d2, d3, d4, d5, d6, d7]) rfl ?_
   exact HFIN.out
 case pos =>
   have hhd : (s.drop q).head? = some s[q] := by rw [List.drop_eq_getElem_cons hq2, List.head?_cons]
   have heq : ((q : Int) == (s.length : Int)) = false := by simp; omega
   have hix := idx hq2
   rw [nb_get hq2] at hix
   have hbeg := begins_cases s[q]
   have hidx := fun i (hi : i < 7) => beg_cases hi s[q]
   have hib := fun i wx => Quo.index_any (w := wx) (begL i) s[q]
   have hvf := value_form (K := K) hhd
   have hvd := value_deep hhd
   have hvs := fun K' => value_succ (K := K') hhd
   have hro := fun K' i (hi : i < 7) => read_of (value K') hhd hi
   have hkf := fun (wx : World) (K' : Nat) (ho1 : 0 ≤ o) (ho2 : o ≤ 100) (hv : ValAt G R s u K' (o + 1)) (hb : Below w.heap.size w wx) i (hi : i < 7) => kfn_any (i := i) hs ho1 ho2 hv (h.below hb) (hE.below hb) hq2 hi
   have hnoc : ∀ (g : Got Val) (n : Nat), g = .no (s.drop q) n → ∀ wx, Below w.heap.size w wx → ∀ wf, wx.grownBy wf (some w.heap.size) → Told R s u o w g (.returned (.tuple #[zeroV, .int .i64 n])) wf := fun g n hv wx b wf k =>
     told_zero hv (drop_at hq) (below_grown b) (h.below b) k (Nat.le_refl _) hR
   have hkin := hE.kin
   subst hu
   generalize s[q] = c at *
   generalize s.drop q = l at *
   have H := Lib.hid h
   have HBEG := Lib.hid hbeg
   have HIDX := Lib.hid hidx
   have HIB := Lib.hid hib
   have HVF := Lib.hid hvf
   have HVD := Lib.hid hvd
   have HVS := Lib.hid hvs
   have HRO := Lib.hid hro
   have HKF := Lib.hid hkf
   have HNO := Lib.hid hnoc
   have HKIN := Lib.hid hkin
   have HD := Lib.hid hd
   clear hbeg hidx hib hvf hvd hvs hro hkf hnoc hkin hd hhd h hE
   unfold rp at HKF
   have hsf := @run_store_func
   go_enter Tryz.func48, Tryz.ntmps48
   go_wp2_with fail
   go_quiet (fail)
   have b9 := below_drewN bA nq
   have hB9 : ((w.alloc (.cells #[.int .i64 0, .bool false, .bool false, .string ⟨#[]⟩, .int .i64 0, .string ⟨#[]⟩, .slice none 0 0, .slice none 0 0] 29)).drewN nq).heap[w.heap.size]? = some (.cells #[.int .i64 0, .bool false, .bool false, .string ⟨#[]⟩, .int .i64 0, .string ⟨#[]⟩, .slice none 0 0, .slice none 0 0] 29 (0, 0)) := hB
   obtain ⟨W9, hW9⟩ : ∃ W9, (w.alloc (.cells #[.int .i64 0, .bool false, .bool false, .string ⟨#[]⟩, .int .i64 0, .string ⟨#[]⟩, .slice none 0 0, .slice none 0 0] 29)).drewN nq = W9 := ⟨_, rfl⟩
   rw [hW9] at b9 hB9
   rw [hW9]
   clear hW9 hB bA c0 c1 c2 c3
   have H9 := H.out.below b9
   obtain ⟨c0, c1, c2, c3⟩ := four H9
   have HB9 := Lib.hid hB9
   have hR9 := lt_of_heap H9
   clear hB9 H9
   go_wp2_with fail
   clear c0 c1 c2 c3
   go_loopw [22] (fun a wr => ∃ i : Nat, a = .int .i64 i ∧ i ≤ 7 ∧ (∀ j, j < i → c ∉ begL j) ∧ wr.heap[w.heap.size]? = some (.cells #[.int .i64 0, .bool false, .bool false, .string ⟨#[]⟩, .int .i64 0, .string ⟨#[]⟩, .slice none 0 0, .slice none 0 0] 29 (0, 0)) ∧ Below w.heap.size w wr) (fun a _ => 7 - (intOf a).toNat)
   case atStart => exact ⟨0, rfl, by omega, fun j hj => absurd hj (Nat.not_lt_zero _), HB9.out, b9⟩
   case round =>
     clear HB9 b9 hR9
     obtain ⟨i, rfl, hi, hno, hBr, br⟩ := hrel
     have hr := H.out.below br
     obtain ⟨c0, c1, c2, c3⟩ := four hr
     have hRr := lt_of_heap hr
     have hGr := Nat.lt_of_lt_of_le hGl br.size
     have hwr := lt_of_heap hBr
     clear hr
     by_cases h7 : i < 7
     · have d1 : decide (i < 7) = true := decide_eq_true h7
       have d2 : (i : Int) < 7 := by omega
       have d3 : decide ((i : Int) < 7) = true := decide_eq_true d2
       have hwi : IntKind.i64.wrap ((i : Int) + 1) = (i : Int) + 1 := by simp only [IntKind.wrap, IntKind.signed, IntKind.bits]; simp; omega
       rcases HIDX.out i h7 with ⟨hin, hge⟩ | ⟨hin, hge⟩
       · have hk0 := (br.cell (p := ⟨G, i * 2, none⟩) hGl).trans ((cell_of HKIN.out (i * 2)).trans (kcs_at ⟨i, h7⟩).1)
         have hk1 := (br.cell (p := ⟨G, i * 2 + 1, none⟩) hGl).trans ((cell_of HKIN.out (i * 2 + 1)).trans (kcs_at ⟨i, h7⟩).2)
         dsimp only at hk0 hk1
         have hlt0 : ¬ (Lib.indexByte (begL i) c < 0) := by omega
         have hib := HIB.out i
         have hbc : begins c = true := by
           rcases HBEG.out with ⟨hb, -⟩ | ⟨-, hb⟩
           · exact hb
           · exact absurd hin (hb i h7)
         have hcl := fun wx => kfn_call h7 #[.pointer (some ⟨R, 0, none⟩)] wx
         rcases HD.out with ⟨rfl, rfl⟩ | ⟨K', rfl, ho, ho1, ho2, hv⟩
         · have hB10 := store8 hBr (.int .i64 0) (.bool false) (.bool false) (.string ⟨#[]⟩) (.int .i64 0) (.string ⟨#[]⟩) (.slice none 0 0) (.slice none 0 0)
           have fin := fun wx b => HNO.out _ 5 (HVD.out hbc) wx b
           clear HVD HVF HVS HRO HKF HNO
           generalize value 0 l = g at *
           generalize Lib.indexByte (begL i) c = x at *
           generalize begL i = bl at *
           have hzb := txt_size bl
           generalize kfn i = kf at *
           have HIB2 := Lib.hid hib
           have HBR := Lib.hid hBr
           have HFIN := Lib.hid fin
           clear hno hib hin hge hBr hbc hcl hB10 fin
           go_wp2_with fail
           go_quiet ((go_at_call 69; exact Calls.quiet_of_same (HIB2.out _)))
           have b9 := below_drewN ((Below.refl wr.heap.size wr).alloc (Nat.le_refl _) (.cells #[.string (txt bl), .func (.func kf) #[] #[]] 82)) nq
           obtain ⟨W9, hW9⟩ : ∃ W9, (wr.alloc (.cells #[.string (txt bl), .func (.func kf) #[] #[]] 82)).drewN nq = W9 := ⟨_, rfl⟩
           rw [hW9] at b9
           rw [hW9]
           clear hW9
           have hB9 := (b9.block _ hwr).trans HBR.out
           have h9 := (H.out.below br).below b9
           have b99 := br.trans (b9.mono br.size)
           clear c0 c1 c2 c3
           obtain ⟨c0, c1, c2, c3⟩ := four h9
           obtain ⟨e0, e1, e2, e3, e4, e5, e6, e7⟩ := eight hB9
           obtain ⟨f0, f1, f2, f3, f4, f5, f6, f7⟩ := free8 hB9
           have HB9 := Lib.hid hB9
           have HB99 := Lib.hid b99
           clear b9 hB9 h9 b99 hk0 hk1
           go_wp2_with fail
           obtain ⟨d0, d1, d2, d3, d4, d5, d6, d7⟩ := eight (store8 HB9.out (.int .i64 0) (.bool false) (.bool false) (.string ⟨#[]⟩) (.int .i64 0) (.string ⟨#[]⟩) (.slice none 0 0) (.slice none 0 0))
           refine bodyPost_ret (v := .tuple #[zeroV, .int .i64 5]) (by simp [results, Tryz.results48, go_sem, zeroV, d0, d1, d2, d3, d4, d5, d6, d7]) rfl ?_
           exact HFIN.out _ HB99.out _ (grown8 W9 w.heap.size (.int .i64 0) (.bool false) (.bool false) (.string ⟨#[]⟩) (.int .i64 0) (.string ⟨#[]⟩) (.slice none 0 0) (.slice none 0 0))
         · have hval : value (K' + 1) l = readK (value K') l i := (HVS.out K' hbc).trans (HRO.out K' i h7 hin)
           have hcall := fun wx hb => HKF.out wx K' ho1 ho2 hv hb i h7 hin
           rw [hval]
           generalize readK (value K') l i = g at *
           generalize Lib.indexByte (begL i) c = x at *
           generalize begL i = bl at *
           have hzb := txt_size bl
           generalize kfn i = kf at *
           have HIB2 := Lib.hid hib
           have HBR := Lib.hid hBr
           have HCALL := Lib.hid hcall
           clear hno hib hin hge hBr hbc hval hcall hv ho1 ho2
           go_wp2_with fail
           go_quiet ((go_at_call 69; exact Calls.quiet_of_same (HIB2.out _)))
           have b9 := below_drewN ((Below.refl wr.heap.size wr).alloc (Nat.le_refl _) (.cells #[.string (txt bl), .func (.func kf) #[] #[]] 82)) nq
           have hk9 := World.alloc_heap_new wr (.cells #[.string (txt bl), .func (.func kf) #[] #[]] 82)
           obtain ⟨W9, hW9⟩ : ∃ W9, (wr.alloc (.cells #[.string (txt bl), .func (.func kf) #[] #[]] 82)).drewN nq = W9 := ⟨_, rfl⟩
           have hk9 : W9.heap[wr.heap.size]? = some (.cells #[.string (txt bl), .func (.func kf) #[] #[]] 82 (0, 0)) := by rw [← hW9]; exact hk9
           rw [hW9] at b9
           rw [hW9]
           clear hW9
           have hB9 := (b9.block _ hwr).trans HBR.out
           have h9 := (H.out.below br).below b9
           have b99 := br.trans (b9.mono br.size)
           have hw9 := lt_of_heap hB9
           have hkc := cell_of hk9 1
           clear c0 c1 c2 c3
           obtain ⟨c0, c1, c2, c3⟩ := four h9
           have HC9 := Lib.hid (HCALL.out _ b99)
           have HB9 := Lib.hid hB9
           have HB99 := Lib.hid b99
           clear b9 hB9 h9 b99 hk0 hk1 hk9
           go_wp2_with fail
           refine HC9.out.mono ?_
           rintro e w1 hT
           obtain ⟨k0, b0, n0, t0, pk, lk, ck, ak, lv, cc, ek, rfl⟩ := hT.form
           have hB1 := kept_of HB9.out hT.grown (by omega)
           have hT2 := hT.stored (below_grown HB99.out) (grown8 w1 w.heap.size (.int .i64 k0) (.bool b0) (.bool n0.neg) (.string (txt n0.dig)) (.int .i64 n0.exp) (.string (txt t0)) (.slice pk lk ck) (.slice ak lv cc)) (Nat.le_refl _) hw9 hR
           obtain ⟨e0, e1, e2, e3, e4, e5, e6, e7⟩ := eight hB1
           obtain ⟨f0, f1, f2, f3, f4, f5, f6, f7⟩ := free8 hB1
           have HB10 := Lib.hid (store8 hB1 (.int .i64 k0) (.bool b0) (.bool n0.neg) (.string (txt n0.dig)) (.int .i64 n0.exp) (.string (txt t0)) (.slice pk lk ck) (.slice ak lv cc))
           have HT := Lib.hid hT2
           clear hB1 hT2 hT c0 c1 c2 c3 hkc
           go_wp2_with fail
           obtain ⟨d0, d1, d2, d3, d4, d5, d6, d7⟩ := eight HB10.out
           refine bodyPost_ret (v := .tuple #[.agg #[.int .i64 k0, .bool b0, .bool n0.neg, .string (txt n0.dig), .int .i64 n0.exp, .string (txt t0), .slice pk lk ck, .slice ak lv cc], .int .i64 ek]) (by simp [results, Tryz.results48, go_sem, d0, d1, d2, d3, d4, d5, d6, d7]) rfl ?_
           exact HT.out
       · have hk0 := (br.cell (p := ⟨G, i * 2, none⟩) hGl).trans ((cell_of HKIN.out (i * 2)).trans (kcs_at ⟨i, h7⟩).1)
         have hk1 := (br.cell (p := ⟨G, i * 2 + 1, none⟩) hGl).trans ((cell_of HKIN.out (i * 2 + 1)).trans (kcs_at ⟨i, h7⟩).2)
         dsimp only at hk0 hk1
         have hlt0 : Lib.indexByte (begL i) c < 0 := hge
         have hib := HIB.out i
         have hno2 : ∀ j, j < i + 1 → c ∉ begL j := fun j hj => by
           by_cases e : j = i
           · rw [e]
             exact hin
           · exact hno j (by omega)
         generalize Lib.indexByte (begL i) c = x at *
         generalize begL i = bl at *
         have hzb := txt_size bl
         generalize kfn i = kf at *
         have HNO2 := Lib.hid hno2
         have HIB2 := Lib.hid hib
         have HBR := Lib.hid hBr
         clear hno hno2 hib hin hge hBr
         go_wp2_with fail
         go_quiet ((go_at_call 69; exact Calls.quiet_of_same (HIB2.out _)))
         have b9 := below_drewN ((Below.refl wr.heap.size wr).alloc (Nat.le_refl _) (.cells #[.string (txt bl), .func (.func kf) #[] #[]] 82)) nq
         go_wp2_with fail
         go_roundw
         case rel => exact ⟨i + 1, by go_num, by omega, HNO2.out, (b9.block _ hwr).trans HBR.out, br.trans (b9.mono br.size)⟩
         case measure => simp [intOf]; omega
     · have d1 : decide (i < 7) = false := decide_eq_false h7
       have d2 : ¬ ((i : Int) < 7) := by omega
       have d3 : decide ((i : Int) < 7) = false := decide_eq_false d2
       have hnb : begins c = false := by
         rcases HBEG.out with ⟨-, j, hj, hc⟩ | ⟨hb, -⟩
         · exact absurd hc (hno j (by omega))
         · exact hb
       have hB10 := store8 hBr (.int .i64 0) (.bool false) (.bool false) (.string ⟨#[]⟩) (.int .i64 0) (.string ⟨#[]⟩) (.slice none 0 0) (.slice none 0 0)
       have fin := HNO.out _ _ (HVF.out hnb) _ br _ (grown8 wr w.heap.size (.int .i64 0) (.bool false) (.bool false) (.string ⟨#[]⟩) (.int .i64 0) (.string ⟨#[]⟩) (.slice none 0 0) (.slice none 0 0))
       obtain ⟨e0, e1, e2, e3, e4, e5, e6, e7⟩ := eight hBr
       obtain ⟨f0, f1, f2, f3, f4, f5, f6, f7⟩ := free8 hBr
       have HB10 := Lib.hid hB10
       have HFIN := Lib.hid fin
       clear hB10 fin hno hnb hBr
       go_wp2_with fail
       obtain ⟨d0, d1, d2, d3, d4, d5, d6, d7⟩ := eight HB10.out
       refine bodyPost_ret (v := .tuple #[zeroV, .int .i64 3]) (by simp [results, Tryz.results48, go_sem, zeroV, d0, d1, d2, d3, d4, d5, d6, d7]) rfl ?_
       exact HFIN.out
theorem mvalue_any {G R : Nat} {s : List UInt8} {u : Value} (hs : s.length < 100000) (hu : u = .slice (some ⟨G, 0, none⟩) 7 7) : ∀ K : Nat, K ≤ 64 → ValAt G R s u K (64 - (K : Int))
 | 0, _ => fun _ _ h hE hq => mvalue_step hs hu (.inl ⟨rfl, by simp⟩) h hE hq
 | K + 1, hK => fun _ _ h hE hq => mvalue_step hs hu (.inr ⟨K, rfl, by simp; omega, by omega, by omega, by
     have := mvalue_any hs hu K (by omega) (G := G) (R := R)
     rwa [show (64 : Int) - (K : Int) = 64 - ((K + 1 : Nat) : Int) + 1 by omega] at this⟩) h hE hq
end Go.Proofs.YtlfbnfphocpgeaaGreatDoor.Jdec
namespace Go.Proofs.YtlfbnfphocpgeaaGreatDoor.Jdec
open Go.RowKit Kit Txt
open Utf (nb)
open Tre (Val HoldF zeroV)
set_option maxRecDepth 100000 in
set_option maxHeartbeats 4000000 in
theorem kinds_any {w : World} : Calls Tryz.prog 25 #[] w fun e w' => (∃ G : Nat, e = .returned (.slice (some ⟨G, 0, none⟩) 7 7) ∧ w.heap.size ≤ G ∧ w'.heap[G]? = some (.cells kcs 82 (0, 0))) ∧ Below w.heap.size w w' := by
 go_enter Tryz.func25, Tryz.ntmps25
 go_wp2_with fail
 go_ret
 exact ⟨⟨w.heap.size, rfl, Nat.le_refl _, World.alloc_heap_new w _⟩, (Below.refl _ w).alloc (Nat.le_refl _) _⟩
theorem skip_nil_iff {s : List UInt8} {q : Nat} (_hq : q ≤ s.length) : skip (s.drop q) = [] ↔ s.length ≤ skipAt s q := by
 have h := skipAt_drop (l := s) (i := q)
 constructor
 · intro e
   rw [e] at h
   have h2 := congrArg List.length h
   rw [List.length_drop] at h2
   simp at h2
   omega
 · intro e
   rw [← h]
   exact List.drop_eq_nil_of_le e
set_option maxRecDepth 100000 in
set_option maxHeartbeats 16000000 in
theorem mwhole_any {G R : Nat} {s : List UInt8} {u : Value} {w : World} (hs : s.length < 100000) (hu : u = .slice (some ⟨G, 0, none⟩) 7 7) (h : Rdr R s 0 0 u w) (hE : Env G w) : Calls Tryz.prog 26 #[rp R] w (Told R s u 0 w (parse s)) := by
 have hz := txt_size s
 have hR := lt_of_heap h
 have hB := World.alloc_heap_new w (.cells #[.int .i64 0, .bool false, .bool false, .string ⟨#[]⟩, .int .i64 0, .string ⟨#[]⟩, .slice none 0 0, .slice none 0 0] 29)
 have bA : Below w.heap.size w (w.alloc (.cells #[.int .i64 0, .bool false, .bool false, .string ⟨#[]⟩, .int .i64 0, .string ⟨#[]⟩, .slice none 0 0, .slice none 0 0] 29)) := (Below.refl _ w).alloc (Nat.le_refl _) _
 have hA := h.below bA
 have hsk := mskip_any hs (Nat.zero_le _) hA
 have hle1 := skipAt_le s 0
 have hd1 := skipAt_drop (l := s) (i := 0)
 rw [List.drop_zero] at hd1
 have hpar : parse s = parse s := rfl
 conv at hpar => rhs; unfold parse
 rw [← hd1] at hpar
 generalize skipAt s 0 = q1 at *
 have hval := fun (wx : World) (hr : Rdr R s q1 0 u wx) (he : Env G wx) => mvalue_any (G := G) (R := R) hs hu 64 (Nat.le_refl _) wx q1 hr he hle1
 have hgood := value_good 64 (s.drop q1)
 have hKI := env_stays hE h (B := w.heap.size) rfl
 generalize parse s = pg at *
 generalize hg : value 64 (s.drop q1) = g at *
 have HV := Lib.hid hval
 have HP := Lib.hid hpar
 have HGD := Lib.hid hgood
 have HSK := Lib.hid hsk
 have HE := Lib.hid (hE.below bA)
 have HB := Lib.hid hB
 have HBA := Lib.hid bA
 have HKI := Lib.hid hKI
 clear hval hpar hgood hsk hE hB bA hKI hg hd1 h hA
 unfold rp at HV HSK
 unfold rp
 go_enter Tryz.func26, Tryz.ntmps26
 go_wp2_with fail
 refine HSK.out.mono ?_
 rintro e w1 ⟨rfl, hr1, g1⟩
 have hE1 := HKI.out _ _ HE.out (.of_grown g1 (.inl (.inl rfl)))
 have hB1 := kept_of HB.out g1 (by omega)
 have ga := grown_trans (below_grown (row := some R) HBA.out) g1
 have HV1 := Lib.hid (HV.out _ hr1 hE1)
 have HB1 := Lib.hid hB1
 have HGA := Lib.hid ga
 have hz1 := lt_of_heap hB1
 clear hr1 g1 hE1 hB1 ga
 go_wp2_with fail
 refine HV1.out.mono ?_
 rintro e w2 hT
 have g2 := hT.grown
 have hB2 := kept_of HB1.out g2 (by omega)
 have gb := grown_trans HGA.out g2
 cases g with
 | no r n =>
   obtain ⟨-, rfl, o', hr2⟩ := hT
   have hn0 : n ≠ 0 := HGD.out.2
   have hne : (((n : Nat) : Int) != 0) = true := by simpa using hn0
   have hpp := HP.out
   dsimp only at hpp
   have HPP := Lib.hid hpp
   have HR2 := Lib.hid hr2
   have HB2 := Lib.hid hB2
   have HGB := Lib.hid gb
   have hlw := lt_of_heap hB2
   have hneB : ¬ w.heap.size = w2.heap.size := by omega
   obtain ⟨e0, e1, e2, e3, e4, e5, e6, e7⟩ := eight hB2
   obtain ⟨f0, f1, f2, f3, f4, f5, f6, f7⟩ := free8 hB2
   unfold zeroV
   clear hpp hr2 hB2 gb g2 hn0
   go_wp2_with fail
   obtain ⟨d0, d1, d2, d3, d4, d5, d6, d7⟩ := eight (new_of (store8 HB2.out (.int .i64 0) (.bool false) (.bool false) (.string ⟨#[]⟩) (.int .i64 0) (.string ⟨#[]⟩) (.slice none 0 0) (.slice none 0 0)) (.cells #[.int .i64 0, .bool false, .bool false, .string ⟨#[]⟩, .int .i64 0, .string ⟨#[]⟩, .slice none 0 0, .slice none 0 0] 29))
   refine bodyPost_ret (v := .tuple #[.agg #[.int .i64 0, .bool false, .bool false, .string ⟨#[]⟩, .int .i64 0, .string ⟨#[]⟩, .slice none 0 0, .slice none 0 0], .int .i64 n]) (by simp [results, Tryz.results26, go_sem, d0, d1, d2, d3, d4, d5, d6, d7]) rfl ?_
   have k := grown8 w2 w.heap.size (.int .i64 0) (.bool false) (.bool false) (.string ⟨#[]⟩) (.int .i64 0) (.string ⟨#[]⟩) (.slice none 0 0) (.slice none 0 0)
   exact .no HPP.out rfl (grown_alloc (grown_on HGB.out k (Nat.le_refl _)) _) ((HR2.out.kept k (by simp; omega)).below ((Below.refl _ _).alloc (Nat.le_refl _) _))
 | ok v r =>
   obtain ⟨-, y, rfl, hy, hr2⟩ := hT
   obtain ⟨pk, ck, ak, cc, rfl⟩ := holdF_form hy
   generalize v.keys.length = lk at *
   generalize v.kids.length = lv at *
   have hsuf : r <:+ s := HGD.out.1.trans (List.drop_suffix _ _)
   have hdr : s.drop (s.length - r.length) = r := drop_suf hsuf
   have hqr : s.length - r.length ≤ s.length := Nat.sub_le _ _
   have hpp := HP.out
   dsimp only at hpp
   have hni := skip_nil_iff hqr
   have hd2 := skipAt_drop (l := s) (i := s.length - r.length)
   have hle2 := skipAt_le s (s.length - r.length)
   rw [hdr] at hni hd2
   have bK : Below w2.heap.size w2 (w2.alloc (.cells #[.int .i64 v.kind, .bool v.is, .bool v.num.neg, .string (txt v.num.dig), .int .i64 v.num.exp, .string (txt v.str), .slice pk lk ck, .slice ak lv cc] 29)) := (Below.refl _ w2).alloc (Nat.le_refl _) _
   have hK := World.alloc_heap_new w2 (.cells #[.int .i64 v.kind, .bool v.is, .bool v.num.neg, .string (txt v.num.dig), .int .i64 v.num.exp, .string (txt v.str), .slice pk lk ck, .slice ak lv cc] 29)
   obtain ⟨W, hW⟩ : ∃ W, w2.alloc (.cells #[.int .i64 v.kind, .bool v.is, .bool v.num.neg, .string (txt v.num.dig), .int .i64 v.num.exp, .string (txt v.str), .slice pk lk ck, .slice ak lv cc] 29) = W := ⟨_, rfl⟩
   rw [hW] at bK hK
   have hBW := (bK.block _ (lt_of_heap hB2)).trans hB2
   have hrW := hr2.below bK
   have hyW : HoldF w1.heap.size W (.agg #[.int .i64 v.kind, .bool v.is, .bool v.num.neg, .string (txt v.num.dig), .int .i64 v.num.exp, .string (txt v.str), .slice pk lk ck, .slice ak lv cc]) v := hy.below bK
   have gW := grown_below gb bK
   have hsk2 := mskip_any hs hqr hrW
   generalize skipAt s (s.length - r.length) = q2 at *
   have hwz : w.heap.size < w2.heap.size := lt_of_heap hB2
   have h1z := HGA.out.size
   have HPP := Lib.hid hpp
   have HNI := Lib.hid hni
   have HD2 := Lib.hid hd2
   have HSK2 := Lib.hid hsk2
   have HK := Lib.hid hK
   have HBW := Lib.hid hBW
   have HYW := Lib.hid hyW
   have HGW := Lib.hid gW
   have HW := Lib.hid hW
   have hRz : R < w2.heap.size := by omega
   clear hpp hni hd2 hsk2 hK hBW hyW gW hW hsuf hdr hqr hr2 hrW hy bK gb g2 hB2
   unfold rp at HSK2
   go_wp2_with fail
   rw [HW.out]
   refine HSK2.out.mono ?_
   rintro e w3 ⟨rfl, hr3, g3⟩
   have hB3 := kept_of HBW.out g3 (by omega)
   have hK3 := kept_of HK.out g3 (by omega)
   have gc := grown_trans HGW.out g3
   have hy3 : HoldF w1.heap.size w3 (.agg #[.int .i64 v.kind, .bool v.is, .bool v.num.neg, .string (txt v.num.dig), .int .i64 v.num.exp, .string (txt v.str), .slice pk lk ck, .slice ak lv cc]) v := by
     obtain ⟨cs, e, hp⟩ := HYW.out
     exact ⟨cs, e, Tre.HoldP.keep g3.size (fun g hg hlt => g3.block g hlt (fun e => by cases e; have : w1.heap.size ≤ R := hg; omega)) v hp⟩
   obtain ⟨c0, c1, c2, c3⟩ := four hr3
   have hR3 := lt_of_heap hr3
   have HR3 := Lib.hid hr3
   have HB3 := Lib.hid hB3
   have HK3 := Lib.hid hK3
   have HGC := Lib.hid gc
   have HY3 := Lib.hid hy3
   clear hr3 g3 gc hy3
   by_cases hend : s.length ≤ q2
   · have hlt1 : decide (q2 < s.length) = false := decide_eq_false (by omega)
     have hpp : pg = .ok v [] := by
       have := HPP.out
       rwa [if_pos (HNI.out.2 hend)] at this
     have hq2 : s.length - ([] : List UInt8).length = q2 := by simp; omega
     have HPQ := Lib.hid hpp
     have HQ2 := Lib.hid hq2
     clear hpp hq2 hB3 hK3
     go_wp2_with fail
     go_quiet (fail)
     have b9 := below_drewN (Below.refl w3.heap.size w3) nq
     obtain ⟨W9, hW9⟩ : ∃ W9, w3.drewN nq = W9 := ⟨_, rfl⟩
     rw [hW9] at b9
     rw [hW9]
     clear hW9 c0 c1 c2 c3
     have hB9 := (b9.block _ (lt_of_heap HB3.out)).trans HB3.out
     have hK9 := (b9.block _ (lt_of_heap HK3.out)).trans HK3.out
     obtain ⟨a0, a1, a2, a3, a4, a5, a6, a7⟩ := eight hK9
     obtain ⟨e0, e1, e2, e3, e4, e5, e6, e7⟩ := eight hB9
     obtain ⟨f0, f1, f2, f3, f4, f5, f6, f7⟩ := free8 hB9
     have HB9 := Lib.hid hB9
     have HB99 := Lib.hid b9
     clear hB9 hK9 b9
     go_wp2_with fail
     obtain ⟨d0, d1, d2, d3, d4, d5, d6, d7⟩ := eight (store8 HB9.out (.int .i64 v.kind) (.bool v.is) (.bool v.num.neg) (.string (txt v.num.dig)) (.int .i64 v.num.exp) (.string (txt v.str)) (.slice pk lk ck) (.slice ak lv cc))
     refine bodyPost_ret (v := .tuple #[.agg #[.int .i64 v.kind, .bool v.is, .bool v.num.neg, .string (txt v.num.dig), .int .i64 v.num.exp, .string (txt v.str), .slice pk lk ck, .slice ak lv cc], .int .i64 0]) (by simp [results, Tryz.results26, go_sem, d0, d1, d2, d3, d4, d5, d6, d7]) rfl ?_
     have k := grown8 W9 w.heap.size (.int .i64 v.kind) (.bool v.is) (.bool v.num.neg) (.string (txt v.num.dig)) (.int .i64 v.num.exp) (.string (txt v.str)) (.slice pk lk ck) (.slice ak lv cc)
     refine .ok HPQ.out HQ2.out (grown_on (grown_below HGC.out HB99.out) k (Nat.le_refl _)) ?_ ((HR3.out.below HB99.out).kept k (by simp; omega))
     have hy9 := HY3.out.below HB99.out
     obtain ⟨cs, e, hp⟩ := hy9
     exact ⟨cs, e, Tre.HoldP.mono (fun g hg _ => Nat.le_trans h1z hg) v (Tre.HoldP.keep k.size (fun g hg hlt => k.block g hlt (fun e => by cases e; have : w1.heap.size ≤ w.heap.size := hg; omega)) v hp)⟩
   · have hlt1 : decide (q2 < s.length) = true := decide_eq_true (by omega)
     have hlt2 : (q2 : Int) < (s.length : Int) := by omega
     have hpp : pg = .no (s.drop q2) 14 := by
       have := HPP.out
       rwa [if_neg (fun e => hend (HNI.out.1 e)), ← HD2.out] at this
     have hq2 := drop_at hle2
     have HPQ := Lib.hid hpp
     have HQ2 := Lib.hid hq2
     clear hpp hq2 hB3 hK3
     go_wp2_with fail
     go_quiet (fail)
     have b9 := below_drewN (Below.refl w3.heap.size w3) nq
     obtain ⟨W9, hW9⟩ : ∃ W9, w3.drewN nq = W9 := ⟨_, rfl⟩
     rw [hW9] at b9
     rw [hW9]
     clear hW9 c0 c1 c2 c3
     have hB9 := (b9.block _ (lt_of_heap HB3.out)).trans HB3.out
     obtain ⟨e0, e1, e2, e3, e4, e5, e6, e7⟩ := eight hB9
     obtain ⟨f0, f1, f2, f3, f4, f5, f6, f7⟩ := free8 hB9
     have HB9 := Lib.hid hB9
     have HB99 := Lib.hid b9
     clear hB9 b9
     go_wp2_with fail
     obtain ⟨d0, d1, d2, d3, d4, d5, d6, d7⟩ := eight (store8 HB9.out (.int .i64 0) (.bool false) (.bool false) (.string ⟨#[]⟩) (.int .i64 0) (.string ⟨#[]⟩) (.slice none 0 0) (.slice none 0 0))
     refine bodyPost_ret (v := .tuple #[.agg #[.int .i64 0, .bool false, .bool false, .string ⟨#[]⟩, .int .i64 0, .string ⟨#[]⟩, .slice none 0 0, .slice none 0 0], .int .i64 14]) (by simp [results, Tryz.results26, go_sem, d0, d1, d2, d3, d4, d5, d6, d7]) rfl ?_
     have k := grown8 W9 w.heap.size (.int .i64 0) (.bool false) (.bool false) (.string ⟨#[]⟩) (.int .i64 0) (.string ⟨#[]⟩) (.slice none 0 0) (.slice none 0 0)
     exact .no (k := 14) HPQ.out HQ2.out (grown_on (grown_below HGC.out HB99.out) k (Nat.le_refl _)) ((HR3.out.below HB99.out).kept k (by simp; omega))
end Go.Proofs.YtlfbnfphocpgeaaGreatDoor.Jdec
namespace Go.Proofs.YtlfbnfphocpgeaaGreatDoor.Jdec
open Go.RowKit Kit Txt
open Utf (nb)
open Tre (Val HoldF zeroV)
structure Ok (w : World) : Prop where
 utf : Utf.Laid w
 tab : Num.Tab w
theorem Ok.below {w w' : World} (h : Ok w) (k : Below w.heap.size w w') : Ok w' := ⟨laid_below h.utf k, h.tab.below k⟩
def ParseTold (s : List UInt8) (w : World) (e : Ending) (w' : World) : Prop := Below w.heap.size w w' ∧ match parse s with
 | .ok v _ => ∃ y, e = .returned (.tuple #[y, .int .i64 (-1), .int .i64 0]) ∧ HoldF w.heap.size w' y v
 | .no r n => e = .returned (.tuple #[zeroV, .int .i64 ((s.length - r.length : Nat) : Int), .int .i64 n])
set_option maxRecDepth 100000 in
set_option maxHeartbeats 16000000 in
theorem jparse_all {w : World} {s : List UInt8} (hs : s.length < 100000) (ho : Ok w) : Calls Tryz.prog 10 #[.string (txt s)] w (ParseTold s w) := by
 have hz := txt_size s
 have hgt : decide ((1048576 : Int) < (s.length : Int)) = false := decide_eq_false (by omega)
 have hgt2 : ¬ (1048576 : Int) < (s.length : Int) := by omega
 have hB := World.alloc_heap_new w (.cells #[.int .i64 0, .bool false, .bool false, .string ⟨#[]⟩, .int .i64 0, .string ⟨#[]⟩, .slice none 0 0, .slice none 0 0] 29)
 have bA : Below w.heap.size w (w.alloc (.cells #[.int .i64 0, .bool false, .bool false, .string ⟨#[]⟩, .int .i64 0, .string ⟨#[]⟩, .slice none 0 0, .slice none 0 0] 29)) := (Below.refl _ w).alloc (Nat.le_refl _) _
 obtain ⟨Wa, hWa⟩ : ∃ Wa, w.alloc (.cells #[.int .i64 0, .bool false, .bool false, .string ⟨#[]⟩, .int .i64 0, .string ⟨#[]⟩, .slice none 0 0, .slice none 0 0] 29) = Wa := ⟨_, rfl⟩
 rw [hWa] at hB bA
 have hk := kinds_any (w := Wa)
 have hwa := lt_of_heap hB
 have hwh := fun (G R : Nat) (wx : World) (h : Rdr R s 0 0 (.slice (some ⟨G, 0, none⟩) 7 7) wx) (hE : Env G wx) => mwhole_any (G := G) (R := R) hs rfl h hE
 unfold rp at hwh
 generalize hg : parse s = g at *
 have HWA := Lib.hid hWa
 have HK := Lib.hid hk
 have HWH := Lib.hid hwh
 have HBA := Lib.hid bA
 have HB := Lib.hid hB
 have HG := Lib.hid hg
 clear hWa hk hwh bA hB hg
 go_enter Tryz.func10, Tryz.ntmps10
 go_wp2_with fail
 rw [HWA.out]
 refine HK.out.mono ?_
 rintro e w1 ⟨⟨G, rfl, hG1, hG2⟩, k1⟩
 have hR := World.alloc_heap_new w1 (.cells #[.string (txt s), .int .i64 0, .int .i64 0, .slice (some ⟨G, 0, none⟩) 7 7] 55)
 have bR : Below w1.heap.size w1 (w1.alloc (.cells #[.string (txt s), .int .i64 0, .int .i64 0, .slice (some ⟨G, 0, none⟩) 7 7] 55)) := (Below.refl _ w1).alloc (Nat.le_refl _) _
 obtain ⟨W, hW⟩ : ∃ W, w1.alloc (.cells #[.string (txt s), .int .i64 0, .int .i64 0, .slice (some ⟨G, 0, none⟩) 7 7] 55) = W := ⟨_, rfl⟩
 rw [hW] at hR bR
 have b1 := HBA.out.trans (k1.mono HBA.out.size)
 have b2 := b1.trans (bR.mono b1.size)
 have hE : Env G W := ⟨(ho.below b2).utf, (ho.below b2).tab, (bR.block _ (lt_of_heap hG2)).trans hG2⟩
 have hr : Rdr w1.heap.size s 0 0 (.slice (some ⟨G, 0, none⟩) 7 7) W := hR
 have hcall := HWH.out G w1.heap.size W hr hE
 have hBW := ((k1.trans (bR.mono k1.size)).block _ hwa).trans HB.out
 have hwz : w.heap.size < w1.heap.size := Nat.lt_of_lt_of_le hwa k1.size
 have HW := Lib.hid hW
 have HC := Lib.hid hcall
 have HB2 := Lib.hid b2
 have HBW := Lib.hid hBW
 clear hW hcall b1 b2 hBW hR bR hE hr hG1 hG2 k1
 go_wp2_with fail
 rw [HW.out]
 go_wp2_with fail
 refine HC.out.mono ?_
 rintro e w2 hT
 have g2 := hT.grown
 have hB3 := kept_of HBW.out g2 (by omega)
 have b3 : Below w.heap.size w w2 := HB2.out.grown g2 HB2.out.size (fun k e => by cases e; omega)
 cases g with
 | no r n =>
   obtain ⟨-, rfl, o', hr2⟩ := hT
   have hgood := parse_good s
   rw [HG.out] at hgood
   have hn0 : n ≠ 0 := hgood.2
   have hne : (((n : Nat) : Int) != 0) = true := by simpa using hn0
   obtain ⟨e0, e1, e2, e3, e4, e5, e6, e7⟩ := eight hB3
   obtain ⟨f0, f1, f2, f3, f4, f5, f6, f7⟩ := free8 hB3
   have HB3 := Lib.hid hB3
   have HB33 := Lib.hid b3
   have HR2 := Lib.hid hr2
   have hlw := lt_of_heap hB3
   unfold zeroV
   clear hB3 b3 hr2 hgood hn0 g2
   go_wp2_with fail
   obtain ⟨W5, hW5⟩ : ∃ W5, ((((((((w2.setCell ⟨w.heap.size, 0, none⟩ (.int .i64 0)).setCell ⟨w.heap.size, 1, none⟩ (.bool false)).setCell ⟨w.heap.size, 2, none⟩ (.bool false)).setCell ⟨w.heap.size, 3, none⟩ (.string ⟨#[]⟩)).setCell ⟨w.heap.size, 4, none⟩ (.int .i64 0)).setCell ⟨w.heap.size, 5, none⟩ (.string ⟨#[]⟩)).setCell ⟨w.heap.size, 6, none⟩ (.slice none 0 0)).setCell ⟨w.heap.size, 7, none⟩ (.slice none 0 0)) = W5 := ⟨_, rfl⟩
   rw [hW5]
   have k5 := grown8 w2 w.heap.size (.int .i64 0) (.bool false) (.bool false) (.string ⟨#[]⟩) (.int .i64 0) (.string ⟨#[]⟩) (.slice none 0 0) (.slice none 0 0)
   have hB5 := store8 HB3.out (.int .i64 0) (.bool false) (.bool false) (.string ⟨#[]⟩) (.int .i64 0) (.string ⟨#[]⟩) (.slice none 0 0) (.slice none 0 0)
   rw [hW5] at k5 hB5
   have hr5 := HR2.out.kept k5 (by simp; omega)
   have b5 := HB33.out.grown k5 HB33.out.size (fun k e => by cases e; exact Nat.le_refl _)
   clear hW5 e0 e1 e2 e3 e4 e5 e6 e7 f0 f1 f2 f3 f4 f5 f6 f7 k5
   obtain ⟨e0, e1, e2, e3, e4, e5, e6, e7⟩ := eight hB5
   obtain ⟨f0, f1, f2, f3, f4, f5, f6, f7⟩ := free8 hB5
   obtain ⟨c0, c1, c2, c3⟩ := four hr5
   have HB5 := Lib.hid hB5
   have HB55 := Lib.hid b5
   clear hB5 b5 hr5
   obtain ⟨W6, hW6⟩ : ∃ W6, ((((((((W5.setCell ⟨w.heap.size, 0, none⟩ (.int .i64 0)).setCell ⟨w.heap.size, 1, none⟩ (.bool false)).setCell ⟨w.heap.size, 2, none⟩ (.bool false)).setCell ⟨w.heap.size, 3, none⟩ (.string ⟨#[]⟩)).setCell ⟨w.heap.size, 4, none⟩ (.int .i64 0)).setCell ⟨w.heap.size, 5, none⟩ (.string ⟨#[]⟩)).setCell ⟨w.heap.size, 6, none⟩ (.slice none 0 0)).setCell ⟨w.heap.size, 7, none⟩ (.slice none 0 0)) = W6 := ⟨_, rfl⟩
   have hB6 := store8 HB5.out (.int .i64 0) (.bool false) (.bool false) (.string ⟨#[]⟩) (.int .i64 0) (.string ⟨#[]⟩) (.slice none 0 0) (.slice none 0 0)
   have b6 := HB55.out.grown (grown8 W5 w.heap.size (.int .i64 0) (.bool false) (.bool false) (.string ⟨#[]⟩) (.int .i64 0) (.string ⟨#[]⟩) (.slice none 0 0) (.slice none 0 0)) HB55.out.size (fun k e => by cases e; exact Nat.le_refl _)
   rw [hW6] at hB6 b6
   have HB6 := Lib.hid hB6
   have HB66 := Lib.hid b6
   have HW6 := Lib.hid hW6
   clear hW6 hB6 b6
   go_region_law (fail)
   all_goals
     go_wp2_with fail
     simp only [Act.put, List.getElem_toArray, List.getElem_cons_zero, List.getElem_cons_succ, List.setIfInBounds_toArray, List.set_cons_zero, List.set_cons_succ]
     rw [HW6.out]
     obtain ⟨d0, d1, d2, d3, d4, d5, d6, d7⟩ := eight (show W6.drew.heap[w.heap.size]? = _ from HB6.out)
     refine bodyPost_ret (v := .tuple #[.agg #[.int .i64 0, .bool false, .bool false, .string ⟨#[]⟩, .int .i64 0, .string ⟨#[]⟩, .slice none 0 0, .slice none 0 0], .int .i64 ((s.length - r.length : Nat) : Int), .int .i64 n]) (by simp [results, Tryz.results10, go_sem, d0, d1, d2, d3, d4, d5, d6, d7]) rfl ?_
     refine ⟨below_drewN HB66.out 1, ?_⟩
     rw [HG.out]
     rfl
 | ok v r =>
   obtain ⟨-, y, rfl, hy, hr2⟩ := hT
   obtain ⟨pk, ck, ak, cc, rfl⟩ := holdF_form hy
   generalize v.keys.length = lk at *
   generalize v.kids.length = lv at *
   obtain ⟨e0, e1, e2, e3, e4, e5, e6, e7⟩ := eight hB3
   obtain ⟨f0, f1, f2, f3, f4, f5, f6, f7⟩ := free8 hB3
   have HB3 := Lib.hid hB3
   have HB33 := Lib.hid b3
   have HY := Lib.hid hy
   have hwz2 := HB2.out.size
   have hWz : w.heap.size < W.heap.size := lt_of_heap HBW.out
   clear hB3 b3 hr2 g2 hy
   go_wp2_with fail
   obtain ⟨W5, hW5⟩ : ∃ W5, ((((((((w2.setCell ⟨w.heap.size, 0, none⟩ (.int .i64 v.kind)).setCell ⟨w.heap.size, 1, none⟩ (.bool v.is)).setCell ⟨w.heap.size, 2, none⟩ (.bool v.num.neg)).setCell ⟨w.heap.size, 3, none⟩ (.string (txt v.num.dig))).setCell ⟨w.heap.size, 4, none⟩ (.int .i64 v.num.exp)).setCell ⟨w.heap.size, 5, none⟩ (.string (txt v.str))).setCell ⟨w.heap.size, 6, none⟩ (.slice pk lk ck)).setCell ⟨w.heap.size, 7, none⟩ (.slice ak lv cc)) = W5 := ⟨_, rfl⟩
   have hB5 := store8 HB3.out (.int .i64 v.kind) (.bool v.is) (.bool v.num.neg) (.string (txt v.num.dig)) (.int .i64 v.num.exp) (.string (txt v.str)) (.slice pk lk ck) (.slice ak lv cc)
   have k5 := grown8 w2 w.heap.size (.int .i64 v.kind) (.bool v.is) (.bool v.num.neg) (.string (txt v.num.dig)) (.int .i64 v.num.exp) (.string (txt v.str)) (.slice pk lk ck) (.slice ak lv cc)
   rw [hW5] at hB5 k5
   rw [hW5]
   have hB6 := store8 hB5 (.int .i64 v.kind) (.bool v.is) (.bool v.num.neg) (.string (txt v.num.dig)) (.int .i64 v.num.exp) (.string (txt v.str)) (.slice pk lk ck) (.slice ak lv cc)
   have k6 := grown_trans k5 (grown8 W5 w.heap.size (.int .i64 v.kind) (.bool v.is) (.bool v.num.neg) (.string (txt v.num.dig)) (.int .i64 v.num.exp) (.string (txt v.str)) (.slice pk lk ck) (.slice ak lv cc))
   obtain ⟨d0, d1, d2, d3, d4, d5, d6, d7⟩ := eight hB6
   refine bodyPost_ret (v := .tuple #[.agg #[.int .i64 v.kind, .bool v.is, .bool v.num.neg, .string (txt v.num.dig), .int .i64 v.num.exp, .string (txt v.str), .slice pk lk ck, .slice ak lv cc], .int .i64 (-1), .int .i64 0]) (by simp [results, Tryz.results10, go_sem, d0, d1, d2, d3, d4, d5, d6, d7]) rfl ?_
   refine ⟨HB33.out.grown k6 HB33.out.size (fun k e => by cases e; exact Nat.le_refl _), ?_⟩
   rw [HG.out]
   refine ⟨_, rfl, ?_⟩
   obtain ⟨cs, e, hp⟩ := HY.out
   exact ⟨cs, e, Tre.HoldP.mono (fun g hg _ => Nat.le_trans (Nat.le_of_lt hWz) hg) v (Tre.HoldP.keep k6.size (fun g hg hlt => k6.block g hlt (fun e => by cases e; have : W.heap.size ≤ w.heap.size := hg; omega)) v hp)⟩
end Go.Proofs.YtlfbnfphocpgeaaGreatDoor.Jdec
