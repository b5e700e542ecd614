/- A part of what is_holds leans on (its texts, put together). Nothing is claimed here. -/
import Derived.Test.YtlfbnfphocpgeaaGreatDoorIs24
namespace Go.Proofs.YtlfbnfphocpgeaaGreatDoor.Jdec
open Go.RowKit Kit Txt
open Utf (nb)
open Tre (Val HoldF HoldP zeroV RowC RowT Rows2 Seen put8 none')
def StO (B R : Nat) (keys : List (List UInt8)) (kids : List Val) (w : World) : Prop :=
 keys.length = kids.length ∧ w.heap[B]? = some (.cells #[rp R] 80 (0, 0)) ∧ w.heap[B + 1]? = some (.cells #[.int .i64 0, .bool false, .bool false, .string ⟨#[]⟩, .int .i64 0, .string ⟨#[]⟩, .slice none 0 0, .slice none 0 0] 29 (0, 0)) ∧ B + 5 ≤ w.heap.size ∧
 w.heap[B + 4]? = some (.cells #[.map (some (B + 3))] 95 (0, 0)) ∧ Seen w (B + 3) keys.length keys ∧
 ∃ (uk uv : Value) (cs : List (List Value)), w.heap[B + 2]? = some (.cells #[.int .i64 6, .bool false, .bool false, .string ⟨#[]⟩, .int .i64 0, .string ⟨#[]⟩, uk, uv] 29 (0, 0)) ∧ RowT (B + 5) w uk keys ∧ RowC uk.ownBlock (B + 5) w uv kids cs
theorem rowT_off {X : Nat → Prop} {B : Nat} {a b : World} {u : Value} {ls : List (List UInt8)} (h : RowT B a u ls) (k : Off X a b) (hX : ∀ i, X i → i < B) : RowT B b u ls :=
 ⟨h.1, h.2.imp id fun ⟨g, cap, cur, e, hg, hb, rest⟩ => ⟨g, cap, cur, e, hg, k.at hb (fun hx => by have := hX g hx; omega), rest⟩⟩
theorem rowC_off {X : Nat → Prop} {N : Option Nat} {B : Nat} {a b : World} {u : Value} {vs : List Val} {cs : List (List Value)} (h : RowC N B a u vs cs) (k : Off X a b) (hX : ∀ i, X i → i < B) : RowC N B b u vs cs :=
 ⟨h.1, ⟨h.2.1.1, h.2.1.2.imp id fun ⟨g, cap, cur, e, hg, hb, rest⟩ => ⟨g, cap, cur, e, hg, k.at hb (fun hx => by have := hX g hx; omega), rest⟩⟩,
   fun i c v h1 h2 => HoldP.keep k.size (fun g hg hlt => k.block g hlt (fun hx => by have := hX g hx; have := hg.1; omega)) v (h.2.2 i c v h1 h2)⟩
theorem StO.keep {B R : Nat} {keys : List (List UInt8)} {kids : List Val} {a b : World} (hRB : R < B) (h : StO B R keys kids a) (k : a.grownBy b (some R)) : StO B R keys kids b := by
 obtain ⟨h1, h2, h3, h4, h5, h6, uk, uv, cs, h7, h8, h9⟩ := h
 exact ⟨h1, kept_of h2 k (by omega), kept_of h3 k (by omega), Nat.le_trans h4 k.size, kept_of h5 k (by omega), seen_other h6 (k.block _ (seen_lt h6) (by simp; omega)), uk, uv, cs, kept_of h7 k (by omega), h8.other k (by omega), h9.other k (by omega)⟩
theorem part_obj (val : List UInt8 → Got Val) (keys : List (List UInt8)) (l : List UInt8) : part val true keys l =
   match field keys l with
   | .no r e => .no r e
   | .ok k r1 => match val r1 with
     | .no r e => .no r e
     | .ok x r => .ok (keys ++ [k], x) r := by
 unfold part
 rw [show named true keys l = (match field keys l with | .ok k r => .ok (keys ++ [k]) r | .no r e => .no r e) from rfl]
 cases field keys l <;> rfl
theorem obj_fin {B R : Nat} {L : List (Nat × Obj)} {w4 : World} {keys : List (List UInt8)} {kids : List Val} {cs : List (List Value)} {c : List Value} {z : Val} {uk uv sk sv : Value} (hR4 : Rows2 (B + 5) L w4 sk keys sv kids cs c z) (hlen : keys.length = kids.length)
   (h0 : w4.heap[B]? = some (.cells #[rp R] 80 (0, 0))) (h1 : w4.heap[B + 1]? = some (.cells #[.int .i64 0, .bool false, .bool false, .string ⟨#[]⟩, .int .i64 0, .string ⟨#[]⟩, .slice none 0 0, .slice none 0 0] 29 (0, 0)))
   (h2 : w4.heap[B + 2]? = some (.cells #[.int .i64 6, .bool false, .bool false, .string ⟨#[]⟩, .int .i64 0, .string ⟨#[]⟩, uk, uv] 29 (0, 0))) (h4 : w4.heap[B + 4]? = some (.cells #[.map (some (B + 3))] 95 (0, 0))) (hS : Seen w4 (B + 3) keys.length keys) (hRB : R < B) :
   Fin B R w4 (StO B R keys kids) ((w4.setCell ⟨B + 2, 6, none⟩ sk).setCell ⟨B + 2, 7, none⟩ sv) ∧ Fin B R w4 (StO B R keys kids) ((w4.setCell ⟨B + 2, 7, none⟩ sv).setCell ⟨B + 2, 6, none⟩ sk) := by
 have one : ∀ wf : World, w4.grownBy wf (some (B + 2)) → wf.heap[B + 2]? = some (.cells #[.int .i64 6, .bool false, .bool false, .string ⟨#[]⟩, .int .i64 0, .string ⟨#[]⟩, sk, sv] 29 (0, 0)) → Fin B R w4 (StO B R keys kids) wf := fun wf k e =>
   ⟨.of_grown k (.inl (.inr (by omega))), fun o h => kept_of h k (by omega), hlen, kept_of h0 k (by omega), kept_of h1 k (by omega), Nat.le_trans hR4.base k.size, kept_of h4 k (by omega), seen_other hS (k.block _ (seen_lt hS) (by simp)), sk, sv, cs, e, hR4.T.other k (by omega), hR4.C.other k (by omega)⟩
 constructor
 · refine one _ (grown_trans (grown_cell _ _ _ _) (grown_cell _ _ _ _)) ?_
   simpa using set_of (set_of h2 6 sk) 7 sv
 · refine one _ (grown_trans (grown_cell _ _ _ _) (grown_cell _ _ _ _)) ?_
   simpa using set_of (set_of h2 7 sv) 6 sk
theorem Off.weak {X Y : Nat → Prop} {a b : World} (h : Off X a b) (hXY : ∀ i, X i → Y i) : Off Y a b := h.mono fun i _ => hXY i
theorem obj_told {R B nk : Nat} {L : List (Nat × Obj)} {s : List UInt8} {u : Value} {o : Int} {wx w1 w2 W wc : World} {keys : List (List UInt8)} {k : List UInt8} {kids : List Val} {cs : List (List Value)} {c : List Value} {z : Val} {uk uv sk sv : Value} {pg : Got (List (List UInt8) × Val)} {g : Got Val} {ek : Int}
   (hX1 : Off (fun i => i = R ∨ B + 2 ≤ i) wx w1) (hG2 : w1.grownBy w2 (some R)) (hBE : Below w2.heap.size w2 W) (hBW : Below (B + 5) W wc) (hR4 : Rows2 (B + 5) L wc sk (keys ++ [k]) sv (kids ++ [z]) cs c z) (hnk : keys.length = nk) (hlen : nk = kids.length)
   (h0 : W.heap[B]? = some (.cells #[rp R] 80 (0, 0))) (h1 : W.heap[B + 1]? = some (.cells #[.int .i64 0, .bool false, .bool false, .string ⟨#[]⟩, .int .i64 0, .string ⟨#[]⟩, .slice none 0 0, .slice none 0 0] 29 (0, 0)))
   (h2 : W.heap[B + 2]? = some (.cells #[.int .i64 6, .bool false, .bool false, .string ⟨#[]⟩, .int .i64 0, .string ⟨#[]⟩, uk, uv] 29 (0, 0))) (h4 : W.heap[B + 4]? = some (.cells #[.map (some (B + 3))] 95 (0, 0))) (hS : Seen W (B + 3) (nk + 1) (keys ++ [k])) (hRB : R < B)
   (hpg : pg = match g with | .no r e => .no r e | .ok x r => .ok (keys ++ [k], x) r) (hgn : ∀ r n, g = .no r n → n ≠ 0)
   (hc : (∃ r, g = .ok z r ∧ ek = 0 ∧ Rdr R s (s.length - r.length) o u w2) ∨ (∃ r n, g = .no r n ∧ ek = ((n : Nat) : Int) ∧ ∃ o', Rdr R s (s.length - r.length) o' u w2)) :
   Off (fun i => i = R ∨ B + 2 ≤ i) wx ((wc.setCell ⟨B + 2, 6, none⟩ sk).setCell ⟨B + 2, 7, none⟩ sv) ∧ ReadTold R s u o (StO B R) kids pg (.returned (.int .i64 ek)) ((wc.setCell ⟨B + 2, 6, none⟩ sk).setCell ⟨B + 2, 7, none⟩ sv) := by
 have bl : ∀ i ob, i < B + 5 → W.heap[i]? = some ob → wc.heap[i]? = some ob := fun i ob hi h => (hBW.block i hi).trans h
 have hl : (keys ++ [k]).length = nk + 1 := by simp [hnk]
 obtain ⟨hf, -⟩ := obj_fin hR4 (by simp; omega) (bl _ _ (by omega) h0) (bl _ _ (by omega) h1) (bl _ _ (by omega) h2) (bl _ _ (by omega) h4) (by rw [hl]; exact seen_other hS (hBW.block _ (by omega))) hRB
 have hr4 : ∀ (q : Nat) (o' : Int), Rdr R s q o' u w2 → Rdr R s q o' u wc := fun q o' h => bl _ _ (by omega) ((hBE.block _ (lt_of_heap h)).trans h)
 have x4 : Off (fun i => i = R ∨ B + 2 ≤ i) wx wc := ((hX1.trans (.of_grown hG2 (.inl (.inl rfl)))).trans (.of_below hBE)).trans ⟨hBW.os, hBW.tape, hBW.output, hBW.size, fun i _ hx => hBW.block i (by have : ¬ B + 2 ≤ i := fun h => hx (.inr h); omega)⟩
 refine ⟨x4.trans hf.1, ?_⟩
 rcases hc with ⟨r, hg, he, hr⟩ | ⟨r, n, hg, he, o', hr⟩
 · rw [hpg, hg, he]
   exact ⟨rfl, hf.2.1 _ (hr4 _ _ hr), hf.2.2⟩
 · rw [hpg, hg, he]
   exact ⟨hgn _ _ hg, rfl, o', hf.2.1 _ (hr4 _ _ hr)⟩
set_option maxRecDepth 100000 in
set_option maxHeartbeats 16000000 in
theorem mobj1_any {G R B K : Nat} {s : List UInt8} {u : Value} {o : Int} {wx : World} {p : Nat} {keys : List (List UInt8)} {kids : List Val} (hs : s.length < 100000) (hv : ValAt G R s u K o) (hRB : R < B) (hr : Rdr R s p o u wx) (hE : Env G wx) (hSt : StO B R keys kids wx) (hp : p ≤ s.length) (hk : kids.length < 100000) (hKI : ∀ a b : World, Env G a → Off (fun i => i = R ∨ B + 2 ≤ i) a b → Env G b) :
   Calls Tryz.prog 62 #[.pointer (some ⟨B, 0, none⟩), .pointer (some ⟨B + 4, 0, none⟩), .pointer (some ⟨B + 2, 0, none⟩)] wx fun e w' => Off (fun i => i = R ∨ B + 2 ≤ i) wx w' ∧ ReadTold R s u o (StO B R) kids (part (value K) true keys (s.drop p)) e w' := by
 obtain ⟨hkl, hb0, hb1, hz, hb4, hS, uk, uv, cs, hb2, hT, hrow⟩ := hSt
 have hkey := mkey_any hs hp (by omega) hE.utf hr hS
 have hfg := field_good keys (s.drop p)
 have hpart := part_obj (value K) keys (s.drop p)
 have hvg := value_good K
 have hval := fun (w1 : World) (q1 : Nat) (h : Rdr R s q1 o u w1) (he : Env G w1) (hq : q1 ≤ s.length) => hv w1 q1 h he hq
 generalize part (value K) true keys (s.drop p) = pg at *
 generalize hgg : field keys (s.drop p) = g at *
 have hc0 := cell_of hb0 0
 have hc4 := cell_of hb4 0
 unfold rp at hc0 hkey
 have HKEY := Lib.hid hkey
 have HKL := Lib.hid hkl
 have HPG := Lib.hid hpart
 have HFG := Lib.hid hfg
 have HVG := Lib.hid hvg
 have HV := Lib.hid hval
 have HE := Lib.hid hE
 have HT0 := Lib.hid hT
 have HC0 := Lib.hid hrow
 have HKI := Lib.hid hKI
 clear hkey hkl hpart hfg hvg hv hval hE hT hrow hgg hr hS hKI
 go_enter Tryz.func62, Tryz.ntmps62
 go_wp2_with fail
 refine HKEY.out.mono ?_
 rintro e w1 ⟨x1, hk1⟩
 have x1' := x1.weak (Y := fun i => i = R ∨ B + 2 ≤ i) (fun i h => h.imp id (fun e => by omega))
 cases g with
 | no r n =>
   obtain ⟨rfl, r1⟩ := hk1
   have hfg := HFG.out
   have hn0 : n ≠ 0 := hfg.2
   have hne : (((n : Nat) : Int) != 0) = true := by simpa using hn0
   have fin : Off (fun i => i = R ∨ B + 2 ≤ i) wx w1 ∧ ReadTold R s u o (StO B R) kids pg (.returned (.int .i64 n)) w1 := by
     rw [HPG.out]
     exact ⟨x1', hn0, rfl, o, r1⟩
   have HF := Lib.hid fin
   clear fin x1 x1' hfg hn0 r1
   go_wp2_with fail
   go_ret
   exact HF.out
 | ok k r1 =>
   obtain ⟨rfl, hr1, hS1⟩ := hk1
   have hfg := HFG.out
   have hsuf : r1 <:+ s := hfg.1.trans (List.drop_suffix _ _)
   have hdr : s.drop (s.length - r1.length) = r1 := drop_suf hsuf
   have hval := HV.out w1 _ hr1 (HKI.out _ _ HE.out x1') (Nat.sub_le _ _)
   rw [hdr] at hval
   have hgn : ∀ r k, value K r1 = .no r k → k ≠ 0 := fun r k e => by
     have := HVG.out r1
     rw [e] at this
     exact this.2
   have hpg := HPG.out
   dsimp only at hpg
   generalize value K r1 = g at *
   have hX : ∀ i, (i = R ∨ i = B + 3) → i < B + 5 := fun i h => by omega
   have hb0' := x1.at hb0 (by omega)
   have hb1' := x1.at hb1 (by omega)
   have hb2' := x1.at hb2 (by omega)
   have hb4' := x1.at hb4 (by omega)
   have hT1 := rowT_off HT0.out x1 hX
   have hC1 := rowC_off HC0.out x1 hX
   have hz1 := Nat.le_trans hz x1.size
   clear hc0 hc4 hdr hsuf hfg hX
   have hc0 := cell_of hb0' 0
   unfold rp at hc0 hval
   have HPG2 := Lib.hid hpg
   have HGN := Lib.hid hgn
   have HV1 := Lib.hid hval
   have HT1 := Lib.hid hT1
   have HC1 := Lib.hid hC1
   have HS1 := Lib.hid hS1
   have HX1 := Lib.hid x1'
   clear hpg hgn hval hT1 hC1 hS1 x1 x1' hr1 hb0 hb1 hb2 hb4
   go_wp2_with fail
   refine HV1.out.mono ?_
   rintro e w2 hTo
   obtain ⟨k0, b0, n0, t0, pk, lk, ck, ak, lv, cc, ek, rfl⟩ := hTo.form
   have g2 := hTo.grown
   obtain ⟨z, hzF, hcase⟩ := hTo.holds
   have hb0'' := kept_of hb0' g2 (by omega)
   have hb1'' := kept_of hb1' g2 (by omega)
   have hb2'' := kept_of hb2' g2 (by omega)
   have hb4'' := kept_of hb4' g2 (by omega)
   have hT2 := HT1.out.other g2 (by omega)
   have hC2 := HC1.out.other g2 (by omega)
   have hS2 := seen_other HS1.out (g2.block _ (seen_lt HS1.out) (by simp; omega))
   have hz2 := Nat.le_trans hz1 g2.size
   have hE := World.alloc_heap_new w2 (.cells #[.int .i64 k0, .bool b0, .bool n0.neg, .string (txt n0.dig), .int .i64 n0.exp, .string (txt t0), .slice pk lk ck, .slice ak lv cc] 29)
   have bE : Below w2.heap.size w2 (w2.alloc (.cells #[.int .i64 k0, .bool b0, .bool n0.neg, .string (txt n0.dig), .int .i64 n0.exp, .string (txt t0), .slice pk lk ck, .slice ak lv cc] 29)) := (Below.refl _ w2).alloc (Nat.le_refl _) _
   have hwz := g2.size
   have HC := Lib.hid hcase
   have HZF := Lib.hid hzF
   have HG2 := Lib.hid g2
   clear hTo hcase hzF g2 hc0 HV1
   go_wp2_with fail
   obtain ⟨W, hW⟩ : ∃ W, w2.alloc (.cells #[.int .i64 k0, .bool b0, .bool n0.neg, .string (txt n0.dig), .int .i64 n0.exp, .string (txt t0), .slice pk lk ck, .slice ak lv cc] 29) = W := ⟨_, rfl⟩
   have hWz : w2.heap.size < W.heap.size := by rw [← hW]; simp
   rw [hW] at hE bE
   rw [hW]
   clear hW
   have oT : ∀ g, uk.ownBlock = some g → B + 5 ≤ g ∧ g < w1.heap.size := Tre.rowT_lt HT1.out
   have oC : ∀ g, uv.ownBlock = some g → B + 5 ≤ g ∧ g < w1.heap.size := HC1.out.own_lt
   have hX0 : Rows2 (B + 5) [(w2.heap.size, Obj.cells [.int .i64 k0, .bool b0, .bool n0.neg, .string (txt n0.dig), .int .i64 n0.exp, .string (txt t0), .slice pk lk ck, .slice ak lv cc].toArray 29 (0, 0))] W uk keys uv kids cs [.int .i64 k0, .bool b0, .bool n0.neg, .string (txt n0.dig), .int .i64 n0.exp, .string (txt t0), .slice pk lk ck, .slice ak lv cc] z := by
     refine ⟨by omega, hT2.below bE, hC2.below bE, ?_, fun e he => ?_⟩
     · obtain ⟨cs', hcs, hp⟩ := HZF.out
       obtain rfl : cs' = [.int .i64 k0, .bool b0, .bool n0.neg, .string (txt n0.dig), .int .i64 n0.exp, .string (txt t0), .slice pk lk ck, .slice ak lv cc] := by
         injection hcs with hcs
         have := congrArg Array.toList hcs
         simpa using this.symm
       exact HoldP.mono (fun q hq _ => ⟨by have : w1.heap.size ≤ q := hq; omega, fun e => by have := (oC q e).2; have : w1.heap.size ≤ q := hq; omega, fun e => by have := (oT q e).2; have : w1.heap.size ≤ q := hq; omega⟩) z (HoldP.keep bE.size (fun q _ hlt => bE.block q hlt) z hp)
     · obtain rfl := List.mem_singleton.1 he
       exact ⟨hE, fun e => by have := (oC _ e).2; omega, fun e => by have := (oT _ e).2; omega⟩
   obtain ⟨ao, co, hao⟩ := Tre.rowT_slice hT2
   obtain ⟨av, cv, hav⟩ := Tre.rowC_slice hC2
   subst hao; subst hav
   have hb2W := (bE.block _ (lt_of_heap hb2'')).trans hb2''
   have hb0W := (bE.block _ (lt_of_heap hb0'')).trans hb0''
   have hb1W := (bE.block _ (lt_of_heap hb1'')).trans hb1''
   have hb4W := (bE.block _ (lt_of_heap hb4'')).trans hb4''
   have hSW := hS2.grown bE
   obtain ⟨-, -, -, -, -, -, p6, p7⟩ := eight hb2W
   obtain ⟨d0, d1, d2, d3, d4, d5, d6, d7⟩ := eight hE
   have hX := hX0.below (drew_below W)
   have hBW : Below (B + 5) W W.drew := (drew_below W).mono (by omega)
   have hlB : B + 2 < W.heap.size := by omega
   have hkn : keys.length < 1000000 := by have := HKL.out; omega
   have HB0 := Lib.hid hb0W
   have HB1 := Lib.hid hb1W
   have HB2 := Lib.hid hb2W
   have HB4 := Lib.hid hb4W
   have HSW := Lib.hid hSW
   have HBE := Lib.hid bE
   have hkv : kids.length < 1000000 := by omega
   generalize hnk : keys.length = nk at *
   generalize hnv : kids.length = nv at *
   have HNK := Lib.hid hnk
   have HNV := Lib.hid hnv
   clear hnk hnv
   have hneE : ¬ w2.heap.size = B + 2 := by omega
   have hneE' : ¬ B + 2 = w2.heap.size := by omega
   clear hb0' hb1' hb2' hb4' hb0'' hb1'' hb2'' hb4'' hb0W hb1W hb2W hb4W hSW hS2 hT2 hC2 hE bE oT oC hX0 HT1 HC1 HT0 HC0 hz1 hz HKEY
   have fW6 := free_of HB2.out 6
   have fW7 := free_of HB2.out 7
   go_region_law
     (first
       | (refine Tre.step_keys (by rfl) _ _ (by rfl) (l := k) HNK.out (by rfl) (by rfl) (by first | exact hX | exact hX.add _ | exact (hX.add _).add _) (by simp) hkn ?_; intro ga capa wa hX2 hb; have hBW2 : Below (B + 5) W wa := (by first | exact hBW.trans hb | exact (hBW.alloc hX.base _).trans hb | exact ((hBW.alloc hX.base _).alloc (by have := hX.base; simp; omega) _).trans hb); clear hX hBW hb; have hX := hX2; have hBW := hBW2; clear hX2 hBW2; (try clear q6 q7 f6 f7 hlB2 hlE2 m0 m1 m2 m3 m4 m5 m6 m7); obtain ⟨m0, m1, m2, m3, m4, m5, m6, m7⟩ := eight (hX.get (i := w2.heap.size) (o := .cells #[.int .i64 k0, .bool b0, .bool n0.neg, .string (txt n0.dig), .int .i64 n0.exp, .string (txt t0), .slice pk lk ck, .slice ak lv cc] 29) (by simp)); have hlB2 := (show B + 2 < _ from Nat.lt_of_lt_of_le (show B + 2 < B + 5 by omega) hX.base); have hlE2 := lt_of_heap (hX.get (i := w2.heap.size) (o := .cells #[.int .i64 k0, .bool b0, .bool n0.neg, .string (txt n0.dig), .int .i64 n0.exp, .string (txt t0), .slice pk lk ck, .slice ak lv cc] 29) (by simp)); have q6 := (hBW.cell (p := ⟨B + 2, 6, none⟩) (by dsimp only; omega)).trans p6; have q7 := (hBW.cell (p := ⟨B + 2, 7, none⟩) (by dsimp only; omega)).trans p7; have f6 := (hBW.frozen (p := ⟨B + 2, 6, none⟩) (by dsimp only; omega)).trans fW6; have f7 := (hBW.frozen (p := ⟨B + 2, 7, none⟩) (by dsimp only; omega)).trans fW7)
       | (refine Tre.step_kids (by rfl) _ _ (by rfl) HNV.out (by rfl) (by rfl) (by first | exact hX | exact hX.add _ | exact (hX.add _).add _) (by simp) hkv ?_; intro gb capb wb hX2 hb; have hBW2 : Below (B + 5) W wb := (by first | exact hBW.trans hb | exact (hBW.alloc hX.base _).trans hb | exact ((hBW.alloc hX.base _).alloc (by have := hX.base; simp; omega) _).trans hb); clear hX hBW hb; have hX := hX2; have hBW := hBW2; clear hX2 hBW2; (try clear q6 q7 f6 f7 hlB2 hlE2 m0 m1 m2 m3 m4 m5 m6 m7); obtain ⟨m0, m1, m2, m3, m4, m5, m6, m7⟩ := eight (hX.get (i := w2.heap.size) (o := .cells #[.int .i64 k0, .bool b0, .bool n0.neg, .string (txt n0.dig), .int .i64 n0.exp, .string (txt t0), .slice pk lk ck, .slice ak lv cc] 29) (by simp)); have hlB2 := (show B + 2 < _ from Nat.lt_of_lt_of_le (show B + 2 < B + 5 by omega) hX.base); have hlE2 := lt_of_heap (hX.get (i := w2.heap.size) (o := .cells #[.int .i64 k0, .bool b0, .bool n0.neg, .string (txt n0.dig), .int .i64 n0.exp, .string (txt t0), .slice pk lk ck, .slice ak lv cc] 29) (by simp)); have q6 := (hBW.cell (p := ⟨B + 2, 6, none⟩) (by dsimp only; omega)).trans p6; have q7 := (hBW.cell (p := ⟨B + 2, 7, none⟩) (by dsimp only; omega)).trans p7; have f6 := (hBW.frozen (p := ⟨B + 2, 6, none⟩) (by dsimp only; omega)).trans fW6; have f7 := (hBW.frozen (p := ⟨B + 2, 7, none⟩) (by dsimp only; omega)).trans fW7))
   all_goals
     have HF := Lib.hid (obj_told HX1.out HG2.out HBE.out hBW hX HNK.out (HKL.out.trans HNV.out.symm) HB0.out HB1.out HB2.out HB4.out HSW.out hRB HPG2.out HGN.out HC.out)
     clear hX hBW q6 q7 f6 f7 hlB2 hlE2 m0 m1 m2 m3 m4 m5 m6 m7 d0 d1 d2 d3 d4 d5 d6 d7 p6 p7 fW6 fW7 hneE hneE' hlB hkn hkv hWz hwz hz2 hk
     go_wp2_with fail
     refine bodyPost_ret (v := .int .i64 ek) (by simp [results, Tryz.results62, go_sem]) rfl ?_
     with_reducible exact HF.out
end Go.Proofs.YtlfbnfphocpgeaaGreatDoor.Jdec
