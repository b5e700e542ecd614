/- A part of what is_holds leans on (its texts, put together). Nothing is claimed here. -/
import Derived.Shelf.RegionOpen
import Derived.Recover
import Derived.Laws.Pointers
import Derived.Test.YtlfbnfphocpgeaaGreatDoorIs17
import Derived.Test.YtlfbnfphocpgeaaGreatDoorIs18
namespace Go.Proofs.YtlfbnfphocpgeaaGreatDoor.Quo
open Go.RowKit Kit Txt Utf Go.Shelf
attribute [local go_sem] Oper.semAt_some
set_option maxHeartbeats 1000000 in
theorem asItIs_any {w : World} {c : Nat} {x : Int} (hx : x = (c : Int)) : Calls Tryz.prog 145 #[.int .i64 x] w fun e w' => e = .returned (.bool (decide (AsIs c))) ∧ w' = w := by
 subst hx
 by_cases h1 : 32 ≤ c
 · have d1 : (32 : Int) ≤ c := by omega
   by_cases h2 : c = 34
   · subst h2
     go_enter Tryz.func145, Tryz.ntmps145
     go_wp2_with fail
     go_ret
     exact ⟨rfl, rfl⟩
   have d2 : ((c : Int) != 34) = true := by simp; omega
   by_cases h3 : c = 92
   · subst h3
     go_enter Tryz.func145, Tryz.ntmps145
     go_wp2_with fail
     go_ret
     exact ⟨rfl, rfl⟩
   have d3 : ((c : Int) != 92) = true := by simp; omega
   rw [decide_eq_true (show AsIs c from ⟨h1, h2, h3⟩)]
   clear h1 h2 h3
   go_enter Tryz.func145, Tryz.ntmps145
   go_wp2_with fail
   go_ret
   exact ⟨rfl, rfl⟩
 · have d1 : decide ((32 : Int) ≤ c) = false := by simp; omega
   rw [decide_eq_false (show ¬ AsIs c from fun h => h1 h.1)]
   clear h1
   go_enter Tryz.func145, Tryz.ntmps145
   go_wp2_with fail
   go_ret
   exact ⟨rfl, rfl⟩
theorem ownFrom_grown {β : Type} {R B : Nat} {w : World} (hB : w.heap.size ≤ B) : OwnFrom B (fun (_ : β) W => w.grownBy W (some R)) :=
 fun _ X Y row hs hg hr => ⟨hg.os.trans hs.os, hg.tape.trans hs.tape, hg.output.trans hs.output, Nat.le_trans hs.size hg.size, fun k hk hne =>
   (hg.block k (Nat.lt_of_lt_of_le hk hs.size) (fun e => by have := (hr k e.symm).1; omega)).trans (hs.block k hk hne)⟩
def lastK {l : List UInt8} (q : List {x // x ∈ all l}) : Nat := match q.getLast? with
 | some x => x.val.1
 | none => 0
theorem lastK_app {l : List UInt8} (q : List {x // x ∈ all l}) (x : {x // x ∈ all l}) : lastK (q ++ [x]) = x.val.1 := by unfold lastK; rw [List.getLast?_append]; rfl
theorem grown_set {a b : World} {row : Option Nat} {g : Nat} (h : a.grownBy b row) (hg : a.heap.size ≤ g) (v : Value) : a.grownBy (b.setCell ⟨g, 0, none⟩ v) row :=
 ⟨h.os, h.tape, h.output, Nat.le_trans h.size (KeepsWalks.setCell b _ v).size, fun k hk hr => (Below.heap_setCell _ _ _ k (fun e => by have : k = g := e; omega)).trans (h.block k hk hr)⟩
theorem grown_put {a b : World} {row : Option Nat} {g : Nat} (h : a.grownBy b row) (hg : a.heap.size ≤ g) (o : Obj) : a.grownBy (b.putObj g o) row :=
 ⟨(grownBy_putObj' b g o).os.trans h.os, (grownBy_putObj' b g o).tape.trans h.tape, (grownBy_putObj' b g o).output.trans h.output, Nat.le_trans h.size (grownBy_putObj' b g o).size,
   fun k hk hr => ((grownBy_putObj' b g o).block k (Nat.lt_of_lt_of_le hk h.size) (fun e => by cases e; omega)).trans (h.block k hk hr)⟩
theorem grown_drew {a b : World} {row : Option Nat} (h : a.grownBy b row) : a.grownBy b.drew row := ⟨h.os, h.tape, h.output, h.size, h.block⟩
theorem grown_of {a b : World} {row : Option Nat} (h : Below a.heap.size a b) : a.grownBy b row := ⟨h.os, h.tape, h.output, h.size, fun k hk _ => h.block k hk⟩
def Plain (R : Nat) (l : List UInt8) (w : World) (e : Ending) (w' : World) : Prop := w.grownBy w' (some R) ∧
 ((∃ k c r, k ≤ l.length ∧ l.drop k = UInt8.ofNat c :: r ∧ ¬ AsIs c ∧ (∀ s at', scanF s at' l = scanF (s ++ l.take k) (at' + k) (l.drop k)) ∧ e = .returned (.string (txt (l.take k))) ∧ Rdr R (l.drop k) w') ∨
  (∃ q, q ≠ 0 ∧ (∀ s at', scanF s at' l = err q) ∧ e = thrown q))
set_option maxRecDepth 100000 in
set_option maxHeartbeats 4000000 in
theorem mplain_any {w : World} {R : Nat} {l : List UInt8} (hl : l.length < 1000000000) (hT : Laid w) (h : Rdr R l w) :
   Calls Tryz.prog 124 #[rp R] w (Plain R l w) := by
 have hs := txt_size l
 have hgl := hT.lt
 have hR := lt_of_heap h
 refine (callsIn_wide (n := 5)).1 ?_
 refine callsIn_of_wp_marks Tryz.func124 rfl trivial ?_ rfl
 unfold rp
 simp only [Tryz.ntmps124, List.size_toArray, List.length_cons, List.length_nil, Nat.reduceAdd, Nat.reduceSub, Array.replicate_succ, Array.replicate_zero, List.push_toArray, List.append_toArray, List.nil_append, List.cons_append]
 have hc := cell_of h 0
 have bP := Boxed.new w 153 (rp R)
 have bO := Boxed.new (w.alloc (.cells #[rp R] 153)) 9 (.string (txt []))
 have bN := Boxed.new ((w.alloc (.cells #[rp R] 153)).alloc (.cells #[.string (txt [])] 9)) 9 (.string (txt l))
 rw [World.size_alloc] at bO bN
 rw [World.size_alloc] at bN
 have ht0 : (⟨#[]⟩ : ByteArray) = txt [] := rfl
 gi_wp2_with (refine ⟨trivial, ?_⟩; gi_at_call 153; refine (all_any 4 _ _).mono ?_; rintro e w2 ⟨rfl, rfl⟩)
 obtain ⟨wl, hwl⟩ : ∃ wl, ((w.alloc (.cells #[.pointer (some ⟨R, 0, none⟩)] 153)).alloc (.cells #[.string (txt [])] 9)).alloc (.cells #[.string (txt l)] 9) = wl := ⟨_, rfl⟩
 have hsz : wl.heap.size = w.heap.size + 3 := by rw [← hwl]; simp
 have hB0 : Below w.heap.size w wl := by rw [← hwl]; exact (((Below.refl _ w).alloc (Nat.le_refl _) _).alloc (by simp) _).alloc (by simp; omega) _
 have bP' : Boxed wl w.heap.size 153 (rp R) := by rw [← hwl]; exact (bP.alloc _).alloc _
 have bO' : Boxed wl (w.heap.size + 1) 9 (.string (txt [])) := by rw [← hwl]; exact bO.alloc _
 have bN' : Boxed wl (w.heap.size + 1 + 1) 9 (.string (txt l)) := by rw [← hwl]; exact bN
 rw [hwl]
 clear bP bO bN hwl
 have hlist : (txt l).data.toList = l := txt_list l
 have hst := all_stops_sub 4 (by omega) (w.heap.size + 1 + 1) w.heap.size (txt l) (by omega) wl (by omega) hgl (hT.below hB0 hgl) bN'
 rw [hlist] at hst
 refine wpIn_rangeFunc_ownG rfl (by omega) (gf := 182) (lb := #[.pointer (some ⟨w.heap.size + 1 + 1, 0, none⟩)]) rfl trivial (enters_of Tryz.func182 (by kernel_rfl) rfl)
   hst Kept.trans (keptK_b (by omega) (by omega)) (Below.refl _ _) (fun _ => rfl)
   (fun (pre : List {x // x ∈ all l}) W => (Boxed W w.heap.size 153 (rp R) ∧ Boxed W (w.heap.size + 1) 9 (.string (txt [])) ∧ Boxed W (w.heap.size + 1 + 1) 9 (.string (txt l))) ∧ Below w.heap.size w W ∧ ∀ x ∈ pre, AsIs x.val.2)
   (fun c (q : List {x // x ∈ all l}) W => Boxed W (w.heap.size + 1) 9 (.string (txt (l.take (lastK q)))) ∧ Boxed W R 126 (.string (txt (l.drop (lastK q)))) ∧ w.grownBy W (some R) ∧ (c = .ret ∧ ∃ p x, q = p ++ [x] ∧ (∀ y ∈ p, AsIs y.val.2) ∧ ¬ AsIs x.val.2))
   (OwnFrom.and (OwnFrom.and (Own.from (boxed_own w.heap.size 153 (fun _ => rp R)) _) (OwnFrom.and (Own.from (boxed_own (w.heap.size + 1) 9 (fun _ => .string (txt []))) _) (Own.from (boxed_own (w.heap.size + 1 + 1) 9 (fun _ => .string (txt l))) _)))
     (OwnFrom.and (ownFrom_below (Nat.le_refl _) (by omega)) (ownFrom_pure _ (fun pre : List {x // x ∈ all l} => ∀ x ∈ pre, AsIs x.val.2))))
   (fun c => OwnFrom.and (Own.from (boxed_own (w.heap.size + 1) 9 (fun q => .string (txt (l.take (lastK q))))) _) (OwnFrom.and (Own.from (boxed_own R 126 (fun q => .string (txt (l.drop (lastK q))))) _) (OwnFrom.and (ownFrom_grown (by omega)) (ownFrom_pure _ (fun q : List {x // x ∈ all l} => c = Code.ret ∧ ∃ p x, q = p ++ [x] ∧ (∀ y ∈ p, AsIs y.val.2) ∧ ¬ AsIs x.val.2)))))
   ⟨⟨bP', bO', bN'⟩, hB0, by simp⟩
   (fun x => { tmps := #[.pointer (some ⟨R, 0, none⟩), .pointer (some ⟨w.heap.size, 0, none⟩), .pointer (some ⟨w.heap.size + 1, 0, none⟩), .int .i64 x.val.1, .int .i64 x.val.2, undef, .pointer (some ⟨R, 0, none⟩), .pointer (some ⟨R, 0, none⟩), .pointer (some ⟨R, 0, none⟩), .string (txt l),
     .func (.func 182) #[] #[.pointer (some ⟨w.heap.size + 1 + 1, 0, none⟩)], .int .i64 x.val.1, .int .i64 x.val.2, undef, undef, undef, undef, undef, undef, undef, undef, undef, undef, undef, undef, undef, undef, undef, undef, undef, undef, undef, undef, undef, undef, undef, undef, undef, undef, undef], defers := [] }) ?assign ?body ?done ?stop
 case assign =>
   intro ll x W K hK
   simp [encs]
   gi_wp2
   exact hK
 case body =>
   rintro ll pre x W ⟨⟨hP, hO, hN⟩, hB, hpre⟩ hlt
   obtain ⟨⟨k, c⟩, hx⟩ := x
   dsimp only
   have hca := asItIs_any (w := W) (c := c) (x := (c : Int)) rfl
   have hcP := hP.cell
   have hRW := h.below hB hR
   unfold rp at hcP
   by_cases hA : AsIs c
   · rw [decide_eq_true hA] at hca
     gi_wp2_with (refine ⟨trivial, ?_⟩; gi_at_call 145; refine (CallsIn.inRound ll (callsIn_wide.2 hca)).mono ?_; rintro e w1 ⟨rfl, rfl⟩)
     refine ⟨KeepsFrom.refl _ _, Kept.refl _ _ _, ⟨hP, hO, hN⟩, hB, ?_⟩
     intro y hy
     rcases List.mem_append.1 hy with hy | hy
     · exact hpre y hy
     · rw [List.mem_singleton.1 hy]
       exact hA
   · rw [decide_eq_false hA] at hca
     have hcR := cell_of hRW 0
     have hfR := free_of hRW 0
     have hcO := hO.cell
     have hfO := hO.frozen
     have hk : k ≤ l.length := Nat.le_of_lt (all_place hx)
     have hsl1 := fun wx => slH (l := l) (z := (k : Int)) (k := k) rfl hk wx
     have hsl2 := fun wx => slL (l := l) (z := (k : Int)) (k := k) rfl hk wx
     have hmo : Tryz.prog.follows .mixedOrders = true := by kernel_rfl
     have hb := hB.size
     gi_wp2_with (refine ⟨trivial, ?_⟩; gi_at_call 145; refine (CallsIn.inRound ll (callsIn_wide.2 hca)).mono ?_; rintro e w1 ⟨rfl, rfl⟩)
     gi_region_with_o fail
     gi_wp2
     all_goals
       refine ⟨((KeepsOthers.setCell _ _ _).trans ((KeepsOthers.setCell _ _ _).trans (KeepsOthers.drew _))).from _, ?_, ?_, ?_, rfl, pre, ⟨(k, c), hx⟩, rfl, hpre, hA⟩
       · rw [lastK_app]
         exact (hO.other (B' := R) (by omega) _).set _
       · rw [lastK_app]
         exact (Boxed.set (.string (txt (l.drop k))) hRW).other (by omega) _
       · exact grown_drew (grown_set (grownBy.trans (grown_of hB) (grownBy_setCell' _ _ _)) (by omega) _)
 case done =>
   rintro D ys W hD hys ⟨⟨hP, hO, hN⟩, hB, hpre⟩ hK
   have hall : ∀ x ∈ all l, AsIs x.2 := by
     intro x hx
     rw [← hys] at hx
     obtain ⟨y, hy, rfl⟩ := List.mem_map.1 hx
     exact hpre y hy
   have hth := all_thro hall
   have hcP := hP.cell
   unfold rp at hcP
   have hcR := cell_of (h.below hB hR) 0
   have hv := valid_any (w := W) (s := txt l) (by omega) (hT.below hB hgl)
   rw [hlist] at hv
   have hDw : w.heap.size ≤ D := by omega
   by_cases hb : bad l = none
   · rw [decide_eq_true ((badI_neg _).2 hb)] at hv
     simp only [if_pos hb] at hth
     clear hall hpre hys hb
     gi_wp2_with (refine ⟨trivial, ?_⟩; gi_at_call 112; refine (callsIn_wide.2 hv).mono ?_; rintro e w1 ⟨rfl, b1⟩)
     have hK1 : w1.heap[D]? = some (.deferred (some [])) := (b1.block D (lt_of_heap hK)).trans hK
     refine ⟨by simp, .inl ⟨_, _, rfl, run_takeDeferred hK1, ?_⟩⟩
     exact ⟨grown_put (grown_of (hB.trans (b1.mono hB.size))) hDw _, .inr ⟨2, by decide, hth, rfl⟩⟩
   · rw [decide_eq_false (fun h => hb ((badI_neg _).1 h))] at hv
     simp only [if_neg hb] at hth
     clear hall hpre hys hb
     gi_wp2_with (refine ⟨trivial, ?_⟩; gi_at_call 112; refine (callsIn_wide.2 hv).mono ?_; rintro e w1 ⟨rfl, b1⟩)
     have hK1 : w1.heap[D]? = some (.deferred (some [])) := (b1.block D (lt_of_heap hK)).trans hK
     refine ⟨by simp, .inl ⟨_, _, rfl, run_takeDeferred hK1, ?_⟩⟩
     exact ⟨grown_put (grown_of (hB.trans (b1.mono hB.size))) hDw _, .inr ⟨7, by decide, hth, rfl⟩⟩
 case stop =>
   rintro D cd q W hD hp ⟨hO, hRd, hg, rfl, p, x, rfl, hpre, hx⟩ hK
   rw [lastK_app] at hO hRd
   obtain ⟨⟨k, c⟩, hm⟩ := x
   dsimp only at *
   have htill : k ≤ l.length ∧ (∃ r, l.drop k = UInt8.ofNat c :: r) ∧ ∀ s at', scanF s at' l = scanF (s ++ l.take k) (at' + k) (l.drop k) := by
     obtain ⟨t, ht⟩ := hp
     rw [List.map_append, List.append_assoc] at ht
     refine all_till (pre := p.map Subtype.val) (c := c) (suf := t) ht.symm ?_ hx
     intro y hy
     obtain ⟨z, hz, rfl⟩ := List.mem_map.1 hy
     exact hpre z hz
   obtain ⟨h1, ⟨r, h2⟩, h3⟩ := htill
   gi_wp2
   refine ⟨by simp, .inl ⟨_, _, rfl, run_takeDeferred hK, ?_⟩⟩
   have hO' := (Boxed.kept hO (grownBy_putObj' W D (.deferred none)) (by simp; omega)).cell
   refine ⟨.string (txt (l.take k)), by simp [results, Tryz.results124, go_sem, hO'], ?_⟩
   exact ⟨grown_put hg (by omega) _, .inl ⟨k, c, r, h1, h2, hx, h3, rfl, Boxed.kept hRd (grownBy_putObj' W D _) (by simp; omega)⟩⟩
end Go.Proofs.YtlfbnfphocpgeaaGreatDoor.Quo
namespace Go.Proofs.YtlfbnfphocpgeaaGreatDoor.Bld
open Go.RowKit Kit Txt
def Bld (B b : Nat) (l : List UInt8) (w : World) : Prop := B ≤ w.heap.size ∧ Lib.IsBuilder 62 5 B b (Lib.byteCells l) w
theorem Bld.new (w : World) : Bld w.heap.size w.heap.size [] (w.alloc (.cells #[.pointer none, .slice none 0 0] 62)) :=
 ⟨by simp, Lib.fresh_isBuilder _ _ _⟩
theorem Bld.other {B b R : Nat} {l : List UInt8} {w w' : World} (h : Bld B b l w) (k : w.grownBy w' (some R)) (hR : R < B) : Bld B b l w' := by
 have one : ∀ p, Lib.BuilderAt 62 5 B b p (Lib.byteCells l) w → Lib.BuilderAt 62 5 B b p (Lib.byteCells l) w' := by
   intro p h
   have hlt := h.lt
   obtain ⟨hB, v, hb, hown, hne⟩ := h
   refine ⟨hB, v, (k.block b hlt (fun e => by cases e; omega)).trans hb, hown.kept k ?_, hne⟩
   rcases hown.2 with ⟨rfl, _⟩ | ⟨g, cap, cur, rfl, hg, _⟩
   · exact .inl rfl
   · refine .inr fun e => ?_
     have e' : g = R := by simpa [Value.ownBlock] using e
     omega
 exact ⟨Nat.le_trans h.1 k.size, h.2.elim (fun h => .inl (one _ h)) (fun h => .inr (one _ h))⟩
theorem cells_app (l m : List UInt8) : Lib.byteCells l ++ Lib.byteCells m = Lib.byteCells (l ++ m) := by simp [Lib.byteCells]
theorem str_any {B b : Nat} {l m : List UInt8} {w : World} (h : Bld B b l w) (hl : l.length < 1000000) (hm : m.length < 1000000) :
   Calls Tryz.prog 108 #[.pointer (some ⟨b, 0, none⟩), .string (txt m)] w fun e w' => e = .returned (.tuple #[.int .i64 (m.length : Int), .nilIface]) ∧ Bld B b (l ++ m) w' ∧ Below B w w' := by
 refine (Tryz.Builder_WriteString B b (Lib.byteCells l) (txt m) w h.2 (by rw [Lib.byteCells_length, txt_size]; omega) h.1).mono ?_
 rintro e w' ⟨he, hb, k⟩
 rw [txt_size] at he
 refine ⟨he, ⟨Nat.le_trans h.1 k.size, .inr ?_⟩, k⟩
 rw [← cells_app]
 exact hb
theorem string_any {B b : Nat} {l : List UInt8} {w : World} (h : Bld B b l w) :
   Calls Tryz.prog 30 #[.pointer (some ⟨b, 0, none⟩)] w fun e w' => e = .returned (.string (txt l)) ∧ Below B w w' := Tryz.Builder_String_any B b l w h.2 h.1
end Go.Proofs.YtlfbnfphocpgeaaGreatDoor.Bld
namespace Go.Proofs.YtlfbnfphocpgeaaGreatDoor.Quo
open Go.RowKit Kit Txt Utf Bld
theorem grown_below {a b c : World} {row : Option Nat} (h : a.grownBy b row) (k : Below a.heap.size b c) : a.grownBy c row :=
 ⟨k.os.trans h.os, k.tape.trans h.tape, k.output.trans h.output, Nat.le_trans h.size k.size, fun i hi hr => (k.block i hi).trans (h.block i hi hr)⟩
theorem laid_grown {w w' : World} {R : Nat} (h : Laid w) (k : w.grownBy w' (some R)) (hR : 5 < R) : Laid w' := by
 obtain ⟨t, f, h0⟩ := h
 exact ⟨t, f, (k.block _ (lt_of_heap h0) (fun e => by cases e; omega)).trans h0⟩
def leftN (R : Nat) (wx : World) : Nat := match wx.cell? ⟨R, 0, none⟩ with
 | some (.string s) => s.size
 | _ => 0
theorem leftN_of {R : Nat} {l : List UInt8} {wx : World} (h : Rdr R l wx) : leftN R wx = l.length := by
 unfold leftN
 rw [cell_of h 0]
 exact txt_size l
theorem scan_want (l : List UInt8) : (wantE 34 l ≠ 0 ∧ scan l = err (wantE 34 l)) ∨ (∃ r, l = 34 :: r ∧ wantE 34 l = 0 ∧ scan l = scanF [] 1 r) := by
 cases l with
 | nil => exact .inl ⟨by decide, rfl⟩
 | cons c r =>
   by_cases h : c = 34
   · subst h
     exact .inr ⟨r, rfl, rfl, rfl⟩
   · have e : wantE 34 (c :: r) = 3 := if_neg h
     refine .inl ⟨by rw [e]; decide, ?_⟩
     rw [e]
     exact if_pos h
theorem not_asIs {c : Nat} (h : ¬ AsIs c) : UInt8.ofNat c = 34 ∨ UInt8.ofNat c = 92 ∨ (UInt8.ofNat c).toNat < 32 := by
 unfold AsIs at h
 by_cases h1 : c = 34
 · exact .inl (by rw [h1]; rfl)
 by_cases h2 : c = 92
 · exact .inr (.inl (by rw [h2]; rfl))
 · exact .inr (.inr (by rw [nbc (by omega)]; omega))
def Text (R : Nat) (l : List UInt8) (w : World) (e : Ending) (w' : World) : Prop := w.grownBy w' (some R) ∧
 (((scan l).e = 0 ∧ e = .returned (.string (txt (scan l).s)) ∧ ∃ rest, Rdr R rest w' ∧ rest.length + (scan l).size = l.length) ∨ ((scan l).e ≠ 0 ∧ e = thrown (scan l).e))
set_option maxRecDepth 100000 in
set_option maxHeartbeats 4000000 in
theorem mtext_any {w : World} {R : Nat} {l : List UInt8} (hl : l.length < 100000) (hT : Laid w) (hRg : 5 < R) (h : Rdr R l w) :
   Calls Tryz.prog 92 #[rp R] w (Text R l w) := by
 have hR := lt_of_heap h
 have hb0 := Bld.new w
 have g0 : w.grownBy (w.alloc (.cells #[.pointer none, .slice none 0 0] 62)) (some R) := World.grownBy_alloc w _ _
 have h0 : Rdr R l (w.alloc (.cells #[.pointer none, .slice none 0 0] 62)) := new_of h _
 have hw := mwant_any (c := 34) (x := 34) h0 rfl
 have hp := fun wx rx (hx : Rdr R rx wx) (hr : rx.length < 1000000000) (ht : Laid wx) => mplain_any hr ht hx
 have hs := fun wx a b (hx : Bld w.heap.size w.heap.size a wx) (ha : a.length < 1000000) (hb : b.length < 1000000) => str_any hx ha (m := b) hb
 have hn := fun wx c r (hx : Rdr R (c :: r) wx) => next_cons hx
 have he := fun wx r (hx : Rdr R r wx) => mescaped_any hx
 have hst := fun wx a (hx : Bld w.heap.size w.heap.size a wx) => string_any hx
 unfold rp at *
 rcases scan_want l with ⟨hwe, hsc⟩ | ⟨r0, rfl, hwe, hsc⟩
 · have hS := Lib.hid hsc
   clear hsc hp hs hn he hst
   go_enter Tryz.func92, Tryz.ntmps92
   go_wp2_with fail
   refine hw.mono ?_
   rintro e w1 ⟨k1, (⟨hk, -, -⟩ | ⟨hk, rfl⟩)⟩
   · exact absurd hk hwe
   refine ⟨rfl, grownBy.trans g0 k1, .inr ?_⟩
   rw [hS.out]
   exact ⟨hk, rfl⟩
 rw [hwe] at hw
 have hS := Lib.hid hsc
 clear hwe
 clear hsc
 go_enter Tryz.func92, Tryz.ntmps92
 go_wp2_with fail
 refine hw.mono ?_
 rintro e w1 ⟨k1, (⟨-, rfl, h1⟩ | ⟨hk, -⟩)⟩
 case inr => exact absurd rfl hk
 have hb1 := Bld.other hb0 k1 hR
 have g1 := grownBy.trans g0 k1
 rw [List.tail_cons] at h1
 clear hw hb0 h0 g0 k1
 go_wp2_with fail
 go_loopw [6] (fun _ wr => ∃ (s rest : List UInt8) (at' : Nat), Rdr R rest wr ∧ Bld w.heap.size w.heap.size s wr ∧ w.grownBy wr (some R) ∧ scanF s at' rest = scan (34 :: r0) ∧ at' + rest.length = (34 :: r0).length ∧ s.length ≤ 4 * at') (fun _ wr => leftN R wr)
 case atStart => exact ⟨[], r0, 1, h1, hb1, g1, hS.out.symm, by simp; omega, by simp⟩
 case round =>
   clear h1 hb1 g1
   obtain ⟨s, rest, at', hRd, hBl, hg, hF, hat, hsl⟩ := hrel
   have hle := leftN_of hRd
   have hF' := Lib.hid hF
   clear hF
   go_wp2_with fail
   refine (hp _ _ hRd (by omega) (laid_grown hT hg hRg)).mono ?_
   rintro e w2 ⟨k2, (⟨k, c, r, hk, hdk, hA, hsc, rfl, h2⟩ | ⟨q, hq, hsc, rfl⟩)⟩
   case inr =>
     refine ⟨rfl, grownBy.trans hg k2, .inr ?_⟩
     have : scan (34 :: r0) = err q := hF'.out.symm.trans (hsc s at')
     rw [this]
     exact ⟨hq, rfl⟩
   have hb2 := Bld.other hBl k2 hR
   have g2 := grownBy.trans hg k2
   have hF2 := Lib.hid (hF'.out.symm.trans (hsc s at'))
   rw [hdk] at h2
   have hdl : rest.length = k + (r.length + 1) := by
     have := congrArg List.length hdk
     rw [List.length_drop, List.length_cons] at this
     omega
   go_wp2_with fail
   refine (hs _ _ _ hb2 (by omega) (by rw [List.length_take]; omega)).mono ?_
   rintro e w3 ⟨rfl, hb3, k3⟩
   have h3 := h2.below k3 hR
   have g3 := grown_below g2 k3
   rcases not_asIs hA with hb | hb | hb
   · rw [hb] at h3 hdk
     have hF3 : scan (34 :: r0) = ⟨s ++ rest.take k, at' + k + 1, 0⟩ := by
       rw [hF2.out, hdk]
       exact scanF_end rfl
     have hF4 := Lib.hid hF3
     clear hF3 he hp hs
     go_wp2_with fail
     refine (hn _ _ _ h3).mono ?_
     rintro e w4 ⟨rfl, h4, k4⟩
     have hb4 := Bld.other hb3 k4 hR
     have g4 := grownBy.trans g3 k4
     go_wp2_with fail
     refine (hst _ _ hb4).mono ?_
     rintro e w5 ⟨rfl, k5⟩
     go_wp2_with fail
     go_ret
     refine ⟨grown_below g4 k5, .inl ?_⟩
     rw [hF4.out]
     exact ⟨rfl, rfl, r, h4.below k5 hR, by show r.length + (at' + k + 1) = _; omega⟩
   · rw [hb] at h3 hdk
     have hF3 := hF2.out
     rw [hdk] at hF3
     have hdr := fun wx (hx : Rdr R r wx) => he wx r hx
     have hok := fun (h : (part (92 :: r)).e = 0) => part_ok h
     by_cases hpe : (part (92 :: r)).e = 0
     · rw [scanF_on (by simp) hpe] at hF3
       obtain ⟨c', e1, e2, e3, e4⟩ := hok hpe
       rw [hpe] at hdr
       have hl4 := (enc_len (c := c')).2
       rw [← e2] at hl4
       rw [List.length_cons] at e4
       have hdl2 : ((92 :: r).drop (part (92 :: r)).size).length = r.length + 1 - (part (92 :: r)).size := by rw [List.length_drop, List.length_cons]
       generalize part (92 :: r) = p at *
       have hF4 := Lib.hid hF3
       clear hF3 hok hpe e1 e2
       generalize (92 :: r).drop p.size = rest2 at *
       go_wp2_with fail
       refine (hn _ _ _ h3).mono ?_
       rintro e w4 ⟨rfl, h4, k4⟩
       have hb4 := Bld.other hb3 k4 hR
       have g4 := grownBy.trans g3 k4
       go_wp2_with fail
       refine (hdr _ h4).mono ?_
       rintro e w5 ⟨k5, (⟨-, rfl, h5⟩ | ⟨hk, -⟩)⟩
       case inr => exact absurd rfl hk
       have hb5 := Bld.other hb4 k5 hR
       have g5 := grownBy.trans g4 k5
       go_wp2_with fail
       refine (hs _ _ _ hb5 (by rw [List.length_append, List.length_take]; omega) (by omega)).mono ?_
       rintro e w6 ⟨rfl, hb6, k6⟩
       have h6 := h5.below k6 hR
       have hle6 := leftN_of h6
       go_wp2_with fail
       go_roundw
       case rel => exact ⟨s ++ rest.take k ++ p.s, rest2, at' + k + p.size, h6, hb6, grown_below g5 k6, hF4.out.symm, by omega, by rw [List.length_append, List.length_append, List.length_take]; omega⟩
       case measure => rw [hle6, hle]; omega
     · rw [scanF_err (by simp) hpe] at hF3
       generalize part (92 :: r) = p at *
       have hF4 := Lib.hid hF3
       clear hF3 hok hs hp
       go_wp2_with fail
       refine (hn _ _ _ h3).mono ?_
       rintro e w4 ⟨rfl, h4, k4⟩
       have g4 := grownBy.trans g3 k4
       go_wp2_with fail
       refine (hdr _ h4).mono ?_
       rintro e w5 ⟨k5, (⟨hk, -, -⟩ | ⟨hk, rfl⟩)⟩
       · exact absurd hk hpe
       refine ⟨rfl, grownBy.trans g4 k5, .inr ?_⟩
       rw [hF4.out]
       exact ⟨hk, rfl⟩
   · have hF3 := hF2.out
     rw [hdk] at hF3
     generalize UInt8.ofNat c = b at *
     have hp3 : part (b :: r) = err 3 := if_pos hb
     have h34 : ((b.toNat : Int) == 34) = false := by simp; omega
     have h92 : ((b.toNat : Int) == 92) = false := by simp; omega
     rw [scanF_err (by simp; rintro rfl; revert hb; decide) (by rw [hp3]; decide), hp3] at hF3
     have hF4 := Lib.hid hF3
     clear hF3 hs hp he hp3
     go_wp2_with fail
     refine (hn _ _ _ h3).mono ?_
     rintro e w4 ⟨rfl, h4, k4⟩
     have g4 := grownBy.trans g3 k4
     go_wp2_with fail
     refine ⟨rfl, g4, .inr ?_⟩
     rw [hF4.out]
     exact ⟨by decide, rfl⟩
end Go.Proofs.YtlfbnfphocpgeaaGreatDoor.Quo
namespace Go.Proofs.YtlfbnfphocpgeaaGreatDoor.Quo
open Go.RowKit Kit Txt Utf Bld
theorem run_assert (v : Value) (w : World) : (Instr.typeAssert (.iface 33 v) 20 33 false).run Tryz.prog w = .ok v w := by
 simp [Instr.typeAssert, run_underlying Tryz.underlying33]
set_option maxRecDepth 100000 in
theorem caught {E : Nat} {k : Nat} {older : List PanicEntry} {x : Int} {w : World} (h : w.heap[E]? = some (.cells #[.int .i64 x] 33 (0, 0))) :
   CallsD Tryz.prog 91 #[.pointer (some ⟨E, 0, none⟩)] (.panicking ({ v := .iface 33 (.int .i64 k), recovered := false } :: older)) w fun e u' w' =>
     e = .returned (.tuple #[]) ∧ u' = .panicking ({ v := .iface 33 (.int .i64 k), recovered := true } :: older) ∧ w' = w.setCell ⟨E, 0, none⟩ (.int .i64 k) := by
 have hc := cell_of h 0
 have hf := free_of h 0
 refine callsD_of_wpS Tryz.func91 rfl fun c₀ cs hu => ?_
 apply wpS_seq
 apply wpS_region
 simp [wpOpsS, go_sem, recoverD, hu, Tryz.ntmps91, Exit.thenS]
 apply wpS_seq
 apply wpS_region
 simp [wpOpsS, go_sem, Exit.thenS]
 refine wpS_cond (t := true) (by simp [Act.eval, Array.replicate]) ?_
 simp only [if_true]
 apply wpS_region
 simp [wpOpsS, go_sem, run_assert, hc, hf, bodyPostS, results, Tryz.results91]
theorem idle {E : Nat} {w : World} :
   CallsD Tryz.prog 91 #[.pointer (some ⟨E, 0, none⟩)] .returning w fun e u' w' => e = .returned (.tuple #[]) ∧ u' = .returning ∧ w' = w := by
 refine callsD_of_wpS Tryz.func91 rfl fun c₀ cs hu => ?_
 apply wpS_seq
 apply wpS_region
 simp [wpOpsS, go_sem, recoverD, hu, Tryz.ntmps91, Exit.thenS]
 apply wpS_seq
 apply wpS_region
 simp [wpOpsS, go_sem, Exit.thenS]
 refine wpS_cond (t := false) (by simp [Act.eval, Array.replicate]) ?_
 simp only [Bool.false_eq_true, if_false]
 refine wpS_of_wp (wp_skip ?_)
 cases c₀
 simp_all [bodyPostS, results, Tryz.results91]
set_option maxRecDepth 100000 in
set_option maxHeartbeats 2000000 in
theorem qscan_laid {w : World} {l : List UInt8} (hl : l.length < 100000) (hT : Laid w) :
   Calls Tryz.prog 65 #[.string (txt l)] w fun e w' => e = .returned (.tuple #[.string (txt (scan l).s), .int .i64 ((scan l).size : Int), .int .i64 ((scan l).e : Int)]) ∧ Below w.heap.size w w' := by
 have hmf : ∀ (fn : Fn) (first cap : Array Value) (w : World), (Instr.makeFunc fn first cap).run Tryz.prog w = .ok (.func fn first cap) w := fun _ _ _ _ => rfl
 have h1 : Rdr (w.heap.size + 1) l ((w.alloc (.cells #[.int .i64 0] 33)).alloc (.cells #[.string (txt l)] 126)) := by
   have := World.alloc_heap_new (w.alloc (.cells #[.int .i64 0] 33)) (.cells #[.string (txt l)] 126)
   rwa [World.size_alloc] at this
 have hE : ((w.alloc (.cells #[.int .i64 0] 33)).alloc (.cells #[.string (txt l)] 126)).heap[w.heap.size]? = some (.cells #[.int .i64 0] 33 (0, 0)) := new_of (World.alloc_heap_new w _) _
 have hB : Below w.heap.size w ((w.alloc (.cells #[.int .i64 0] 33)).alloc (.cells #[.string (txt l)] 126)) := ((Below.refl _ w).alloc (Nat.le_refl _) _).alloc (by simp) _
 have hT1 : Laid ((w.alloc (.cells #[.int .i64 0] 33)).alloc (.cells #[.string (txt l)] 126)) := hT.below hB hT.lt
 have ht := mtext_any hl hT1 (by have := hT.lt; omega) h1
 unfold rp at ht
 unfold Text at ht
 have hs := txt_size l
 have hmo : Tryz.prog.follows .mixedOrders = true := by kernel_rfl
 have hno := fun (h : (scan l).e ≠ 0) => scan_err_nil h
 generalize scan l = p at *
 go_enter_defers Tryz.func65, Tryz.ntmps65
 go_wp2_with fail
 refine ht.mono ?_
 rintro e w1 ⟨k1, (⟨hz, rfl, rest, hR, hlen⟩ | ⟨hz, rfl⟩)⟩
 · have hE1 : w1.heap[w.heap.size]? = some (.cells #[.int .i64 0] 33 (0, 0)) := (k1.block _ (lt_of_heap hE) (by simp)).trans hE
   have hcR := cell_of hR 0
   have hcE := cell_of hE1 0
   have hfE := free_of hE1 0
   have hsr := txt_size rest
   have wz : IntKind.i64.wrap ((l.length : Int) - (rest.length : Int)) = (p.size : Int) := by simp only [IntKind.wrap, IntKind.signed, IntKind.bits]; simp; omega
   have ht0 : (⟨#[]⟩ : ByteArray) = txt [] := rfl
   clear hno ht h1 hT1
   go_wp2_with fail
   go_region
   all_goals
     go_wp2_with fail
     refine leaves_cons (f := 91) (args := #[.pointer (some ⟨w.heap.size, 0, none⟩)]) (by simp) (by simp [go_sem]) ?_
     refine idle.mono ?_
     rintro e u' w'' ⟨rfl, rfl, rfl⟩
     refine ⟨.tuple #[.string (txt p.s), .int .i64 (p.size : Int), .int .i64 0], by simp [results, Tryz.results65, go_sem, hcE], ?_⟩
     rw [hz]
     exact ⟨rfl, below_drewN ((Below.trans hB ⟨k1.os, k1.tape, k1.output, Nat.le_trans (by have := hB.size; omega) k1.size, fun k hk => k1.block k (by have := hB.size; omega) (fun e => by cases e; omega)⟩).setCell (p := ⟨w.heap.size, 0, none⟩) (Nat.le_refl _) _) 1⟩
 · have hE1 : w1.heap[w.heap.size]? = some (.cells #[.int .i64 0] 33 (0, 0)) := (k1.block _ (lt_of_heap hE) (by simp)).trans hE
   have hp := hno hz
   obtain ⟨ps, pz, pe⟩ := p
   injection hp with e1 e2
   subst e1; subst e2
   clear hno
   dsimp only at *
   refine leaves_cons (f := 91) (args := #[.pointer (some ⟨w.heap.size, 0, none⟩)]) (by simp) (by simp [go_sem]) ?_
   refine (caught hE1).mono ?_
   rintro e u' w'' ⟨rfl, rfl, rfl⟩
   have hE2 := cell_of (set_of hE1 0 (.int .i64 (pe : Int))) 0
   have hbz : Below w.heap.size w (w1.setCell ⟨w.heap.size, 0, none⟩ (.int .i64 (pe : Int))) := (Below.trans hB ⟨k1.os, k1.tape, k1.output, Nat.le_trans (by have := hB.size; omega) k1.size, fun k hk => k1.block k (by have := hB.size; omega) (fun e => by cases e; omega)⟩).setCell (p := ⟨w.heap.size, 0, none⟩) (Nat.le_refl _) _
   have ht0 : (⟨#[]⟩ : ByteArray) = txt [] := rfl
   refine ⟨.tuple #[.string (txt []), .int .i64 0, .int .i64 (pe : Int)], by simp [results, Tryz.results65, go_sem, hE2, ht0], rfl, hbz⟩
end Go.Proofs.YtlfbnfphocpgeaaGreatDoor.Quo
