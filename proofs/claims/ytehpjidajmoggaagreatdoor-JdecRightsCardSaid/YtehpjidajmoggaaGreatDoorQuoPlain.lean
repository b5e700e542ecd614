/- The reader of package quote as it landed: all scalars that stand as they are, up to one that doesn't. Nothing is claimed here. -/
import Derived.Test.YtehpjidajmoggaaGreatDoorQuoRdr
import Derived.Test.YtehpjidajmoggaaGreatDoorUtfAll
import Derived.Shelf.RegionOpen
namespace Go.Proofs.YtehpjidajmoggaaGreatDoor.Quo
open Go.RowKit Kit Txt Utf Go.Shelf
attribute [local go_sem] Oper.semAt_some

set_option maxHeartbeats 1000000 in
theorem asItIs_any {w : World} {c : Nat} {x : Int} (hx : x = (c : Int)) : Calls Tryz.prog 94 #[.int .i64 x] w fun e w' => e = .returned (.bool (decide (AsIs c))) ∧ w' = w := by
  subst hx
  by_cases h1 : 32 ≤ c
  · have d1 : (32 : Int) ≤ c := by omega
    by_cases h2 : c = 34
    · subst h2
      go_enter Tryz.func94, Tryz.ntmps94
      go_wp2_with fail
      go_ret
      exact ⟨rfl, rfl⟩
    have d2 : ((c : Int) != 34) = true := by simp; omega
    by_cases h3 : c = 92
    · subst h3
      go_enter Tryz.func94, Tryz.ntmps94
      go_wp2_with fail
      go_ret
      exact ⟨rfl, rfl⟩
    have d3 : ((c : Int) != 92) = true := by simp; omega
    rw [decide_eq_true (show AsIs c from ⟨h1, h2, h3⟩)]
    clear h1 h2 h3
    go_enter Tryz.func94, Tryz.ntmps94
    go_wp2_with fail
    go_ret
    exact ⟨rfl, rfl⟩
  · have d1 : decide ((32 : Int) ≤ c) = false := by simp; omega
    rw [decide_eq_false (show ¬ AsIs c from fun h => h1 h.1)]
    clear h1
    go_enter Tryz.func94, Tryz.ntmps94
    go_wp2_with fail
    go_ret
    exact ⟨rfl, rfl⟩

theorem ownFrom_grown {β : Type} {R B : Nat} {w : World} (hB : w.heap.size ≤ B) : OwnFrom B (fun (_ : β) W => w.grownBy W (some R)) :=
  fun _ X Y row hs hg hr => ⟨hg.os.trans hs.os, hg.tape.trans hs.tape, hg.output.trans hs.output, Nat.le_trans hs.size hg.size, fun k hk hne =>
    (hg.block k (Nat.lt_of_lt_of_le hk hs.size) (fun e => by have := (hr k e.symm).1; omega)).trans (hs.block k hk hne)⟩

/-- The last one's place. -/
def lastK {l : List UInt8} (q : List {x // x ∈ all l}) : Nat := match q.getLast? with
  | some x => x.val.1
  | none => 0
theorem lastK_app {l : List UInt8} (q : List {x // x ∈ all l}) (x : {x // x ∈ all l}) : lastK (q ++ [x]) = x.val.1 := by unfold lastK; rw [List.getLast?_append]; rfl
theorem grown_set {a b : World} {row : Option Nat} {g : Nat} (h : a.grownBy b row) (hg : a.heap.size ≤ g) (v : Value) : a.grownBy (b.setCell ⟨g, 0, none⟩ v) row :=
  ⟨h.os, h.tape, h.output, Nat.le_trans h.size (KeepsWalks.setCell b _ v).size, fun k hk hr => (Below.heap_setCell _ _ _ k (fun e => by have : k = g := e; omega)).trans (h.block k hk hr)⟩
theorem grown_put {a b : World} {row : Option Nat} {g : Nat} (h : a.grownBy b row) (hg : a.heap.size ≤ g) (o : Obj) : a.grownBy (b.putObj g o) row :=
  ⟨(grownBy_putObj' b g o).os.trans h.os, (grownBy_putObj' b g o).tape.trans h.tape, (grownBy_putObj' b g o).output.trans h.output, Nat.le_trans h.size (grownBy_putObj' b g o).size,
    fun k hk hr => ((grownBy_putObj' b g o).block k (Nat.lt_of_lt_of_le hk h.size) (fun e => by cases e; omega)).trans (h.block k hk hr)⟩
theorem grown_drew {a b : World} {row : Option Nat} (h : a.grownBy b row) : a.grownBy b.drew row := ⟨h.os, h.tape, h.output, h.size, h.block⟩
theorem grown_of {a b : World} {row : Option Nat} (h : Below a.heap.size a b) : a.grownBy b row := ⟨h.os, h.tape, h.output, h.size, fun k hk _ => h.block k hk⟩

/-- What plain tells. -/
def Plain (R : Nat) (l : List UInt8) (w : World) (e : Ending) (w' : World) : Prop := w.grownBy w' (some R) ∧
  ((∃ k c r, k ≤ l.length ∧ l.drop k = UInt8.ofNat c :: r ∧ ¬ AsIs c ∧ (∀ s at', scanF s at' l = scanF (s ++ l.take k) (at' + k) (l.drop k)) ∧ e = .returned (.string (txt (l.take k))) ∧ Rdr R (l.drop k) w') ∨
   (∃ q, q ≠ 0 ∧ (∀ s at', scanF s at' l = err q) ∧ e = thrown q))

set_option maxRecDepth 100000 in
set_option maxHeartbeats 4000000 in
theorem mplain_any {w : World} {R : Nat} {l : List UInt8} (hl : l.length < 1000000000) (hT : Laid w) (h : Rdr R l w) :
    Calls Tryz.prog 72 #[rp R] w (Plain R l w) := by
  have hs := txt_size l
  have hgl := hT.lt
  have hR := lt_of_heap h
  refine (callsIn_wide (n := 5)).1 ?_
  refine callsIn_of_wp_marks Tryz.func72 rfl trivial ?_ rfl
  unfold rp
  simp only [Tryz.ntmps72, List.size_toArray, List.length_cons, List.length_nil, Nat.reduceAdd, Nat.reduceSub, Array.replicate_succ, Array.replicate_zero, List.push_toArray, List.append_toArray, List.nil_append, List.cons_append]
  have hc := cell_of h 0
  have bP := Boxed.new w 99 (rp R)
  have bO := Boxed.new (w.alloc (.cells #[rp R] 99)) 9 (.string (txt []))
  have bN := Boxed.new ((w.alloc (.cells #[rp R] 99)).alloc (.cells #[.string (txt [])] 9)) 9 (.string (txt l))
  rw [World.size_alloc] at bO bN
  rw [World.size_alloc] at bN
  have ht0 : (⟨#[]⟩ : ByteArray) = txt [] := rfl
  gi_wp2_with (refine ⟨trivial, ?_⟩; gi_at_call 93; refine (all_any 4 _ _).mono ?_; rintro e w2 ⟨rfl, rfl⟩)
  obtain ⟨wl, hwl⟩ : ∃ wl, ((w.alloc (.cells #[.pointer (some ⟨R, 0, none⟩)] 99)).alloc (.cells #[.string (txt [])] 9)).alloc (.cells #[.string (txt l)] 9) = wl := ⟨_, rfl⟩
  have hsz : wl.heap.size = w.heap.size + 3 := by rw [← hwl]; simp
  have hB0 : Below w.heap.size w wl := by rw [← hwl]; exact (((Below.refl _ w).alloc (Nat.le_refl _) _).alloc (by simp) _).alloc (by simp; omega) _
  have bP' : Boxed wl w.heap.size 99 (rp R) := by rw [← hwl]; exact (bP.alloc _).alloc _
  have bO' : Boxed wl (w.heap.size + 1) 9 (.string (txt [])) := by rw [← hwl]; exact bO.alloc _
  have bN' : Boxed wl (w.heap.size + 1 + 1) 9 (.string (txt l)) := by rw [← hwl]; exact bN
  rw [hwl]
  clear bP bO bN hwl
  have hlist : (txt l).data.toList = l := txt_list l
  have hst := all_stops_sub 4 (by omega) (w.heap.size + 1 + 1) w.heap.size (txt l) (by omega) wl (by omega) hgl (hT.below hB0 hgl) bN'
  rw [hlist] at hst
  refine wpIn_rangeFunc_ownG rfl (by omega) (gf := 109) (lb := #[.pointer (some ⟨w.heap.size + 1 + 1, 0, none⟩)]) rfl trivial (enters_of Tryz.func109 (by kernel_rfl) rfl)
    hst Kept.trans (keptK_b (by omega) (by omega)) (Below.refl _ _) (fun _ => rfl)
    (fun (pre : List {x // x ∈ all l}) W => (Boxed W w.heap.size 99 (rp R) ∧ Boxed W (w.heap.size + 1) 9 (.string (txt [])) ∧ Boxed W (w.heap.size + 1 + 1) 9 (.string (txt l))) ∧ Below w.heap.size w W ∧ ∀ x ∈ pre, AsIs x.val.2)
    (fun c (q : List {x // x ∈ all l}) W => Boxed W (w.heap.size + 1) 9 (.string (txt (l.take (lastK q)))) ∧ Boxed W R 80 (.string (txt (l.drop (lastK q)))) ∧ w.grownBy W (some R) ∧ (c = .ret ∧ ∃ p x, q = p ++ [x] ∧ (∀ y ∈ p, AsIs y.val.2) ∧ ¬ AsIs x.val.2))
    (OwnFrom.and (OwnFrom.and (Own.from (boxed_own w.heap.size 99 (fun _ => rp R)) _) (OwnFrom.and (Own.from (boxed_own (w.heap.size + 1) 9 (fun _ => .string (txt []))) _) (Own.from (boxed_own (w.heap.size + 1 + 1) 9 (fun _ => .string (txt l))) _)))
      (OwnFrom.and (ownFrom_below (Nat.le_refl _) (by omega)) (ownFrom_pure _ (fun pre : List {x // x ∈ all l} => ∀ x ∈ pre, AsIs x.val.2))))
    (fun c => OwnFrom.and (Own.from (boxed_own (w.heap.size + 1) 9 (fun q => .string (txt (l.take (lastK q))))) _) (OwnFrom.and (Own.from (boxed_own R 80 (fun q => .string (txt (l.drop (lastK q))))) _) (OwnFrom.and (ownFrom_grown (by omega)) (ownFrom_pure _ (fun q : List {x // x ∈ all l} => c = Code.ret ∧ ∃ p x, q = p ++ [x] ∧ (∀ y ∈ p, AsIs y.val.2) ∧ ¬ AsIs x.val.2)))))
    ⟨⟨bP', bO', bN'⟩, hB0, by simp⟩
    (fun x => { tmps := #[.pointer (some ⟨R, 0, none⟩), .pointer (some ⟨w.heap.size, 0, none⟩), .pointer (some ⟨w.heap.size + 1, 0, none⟩), .int .i64 x.val.1, .int .i64 x.val.2, undef, .pointer (some ⟨R, 0, none⟩), .pointer (some ⟨R, 0, none⟩), .pointer (some ⟨R, 0, none⟩), .string (txt l),
      .func (.func 109) #[] #[.pointer (some ⟨w.heap.size + 1 + 1, 0, none⟩)], .int .i64 x.val.1, .int .i64 x.val.2, undef, undef, undef, undef, undef, undef, undef, undef, undef, undef, undef, undef, undef, undef, undef, undef, undef, undef, undef, undef, undef, undef, undef, undef, undef, undef, undef], defers := [] }) ?assign ?body ?done ?stop
  case assign =>
    intro ll x W K hK
    simp [encs]
    gi_wp2
    exact hK
  case body =>
    rintro ll pre x W ⟨⟨hP, hO, hN⟩, hB, hpre⟩ hlt
    obtain ⟨⟨k, c⟩, hx⟩ := x
    dsimp only
    have hca := asItIs_any (w := W) (c := c) (x := (c : Int)) rfl
    have hcP := hP.cell
    have hRW := h.below hB hR
    unfold rp at hcP
    by_cases hA : AsIs c
    · rw [decide_eq_true hA] at hca
      gi_wp2_with (refine ⟨trivial, ?_⟩; gi_at_call 94; refine (CallsIn.inRound ll (callsIn_wide.2 hca)).mono ?_; rintro e w1 ⟨rfl, rfl⟩)
      refine ⟨KeepsFrom.refl _ _, Kept.refl _ _ _, ⟨hP, hO, hN⟩, hB, ?_⟩
      intro y hy
      rcases List.mem_append.1 hy with hy | hy
      · exact hpre y hy
      · rw [List.mem_singleton.1 hy]
        exact hA
    · rw [decide_eq_false hA] at hca
      have hcR := cell_of hRW 0
      have hfR := free_of hRW 0
      have hcO := hO.cell
      have hfO := hO.frozen
      have hk : k ≤ l.length := Nat.le_of_lt (all_place hx)
      have hsl1 := fun wx => slH (l := l) (z := (k : Int)) (k := k) rfl hk wx
      have hsl2 := fun wx => slL (l := l) (z := (k : Int)) (k := k) rfl hk wx
      have hmo : Tryz.prog.follows .mixedOrders = true := by kernel_rfl
      have hb := hB.size
      gi_wp2_with (refine ⟨trivial, ?_⟩; gi_at_call 94; refine (CallsIn.inRound ll (callsIn_wide.2 hca)).mono ?_; rintro e w1 ⟨rfl, rfl⟩)
      gi_region_with_o fail
      gi_wp2
      all_goals
        refine ⟨((KeepsOthers.setCell _ _ _).trans ((KeepsOthers.setCell _ _ _).trans (KeepsOthers.drew _))).from _, ?_, ?_, ?_, rfl, pre, ⟨(k, c), hx⟩, rfl, hpre, hA⟩
        · rw [lastK_app]
          exact (hO.other (B' := R) (by omega) _).set _
        · rw [lastK_app]
          exact (Boxed.set (.string (txt (l.drop k))) hRW).other (by omega) _
        · exact grown_drew (grown_set (grownBy.trans (grown_of hB) (grownBy_setCell' _ _ _)) (by omega) _)
  case done =>
    rintro D ys W hD hys ⟨⟨hP, hO, hN⟩, hB, hpre⟩ hK
    have hall : ∀ x ∈ all l, AsIs x.2 := by
      intro x hx
      rw [← hys] at hx
      obtain ⟨y, hy, rfl⟩ := List.mem_map.1 hx
      exact hpre y hy
    have hth := all_thro hall
    have hcP := hP.cell
    unfold rp at hcP
    have hcR := cell_of (h.below hB hR) 0
    have hv := valid_any (w := W) (s := txt l) (by omega) (hT.below hB hgl)
    rw [hlist] at hv
    have hDw : w.heap.size ≤ D := by omega
    by_cases hb : bad l = none
    · rw [decide_eq_true ((badI_neg _).2 hb)] at hv
      simp only [if_pos hb] at hth
      clear hall hpre hys hb
      gi_wp2_with (refine ⟨trivial, ?_⟩; gi_at_call 95; refine (callsIn_wide.2 hv).mono ?_; rintro e w1 ⟨rfl, b1⟩)
      have hK1 : w1.heap[D]? = some (.deferred (some [])) := (b1.block D (lt_of_heap hK)).trans hK
      refine ⟨by simp, .inl ⟨_, _, rfl, run_takeDeferred hK1, ?_⟩⟩
      exact ⟨grown_put (grown_of (hB.trans (b1.mono hB.size))) hDw _, .inr ⟨2, by decide, hth, rfl⟩⟩
    · rw [decide_eq_false (fun h => hb ((badI_neg _).1 h))] at hv
      simp only [if_neg hb] at hth
      clear hall hpre hys hb
      gi_wp2_with (refine ⟨trivial, ?_⟩; gi_at_call 95; refine (callsIn_wide.2 hv).mono ?_; rintro e w1 ⟨rfl, b1⟩)
      have hK1 : w1.heap[D]? = some (.deferred (some [])) := (b1.block D (lt_of_heap hK)).trans hK
      refine ⟨by simp, .inl ⟨_, _, rfl, run_takeDeferred hK1, ?_⟩⟩
      exact ⟨grown_put (grown_of (hB.trans (b1.mono hB.size))) hDw _, .inr ⟨7, by decide, hth, rfl⟩⟩
  case stop =>
    rintro D cd q W hD hp ⟨hO, hRd, hg, rfl, p, x, rfl, hpre, hx⟩ hK
    rw [lastK_app] at hO hRd
    obtain ⟨⟨k, c⟩, hm⟩ := x
    dsimp only at *
    have htill : k ≤ l.length ∧ (∃ r, l.drop k = UInt8.ofNat c :: r) ∧ ∀ s at', scanF s at' l = scanF (s ++ l.take k) (at' + k) (l.drop k) := by
      obtain ⟨t, ht⟩ := hp
      rw [List.map_append, List.append_assoc] at ht
      refine all_till (pre := p.map Subtype.val) (c := c) (suf := t) ht.symm ?_ hx
      intro y hy
      obtain ⟨z, hz, rfl⟩ := List.mem_map.1 hy
      exact hpre z hz
    obtain ⟨h1, ⟨r, h2⟩, h3⟩ := htill
    gi_wp2
    refine ⟨by simp, .inl ⟨_, _, rfl, run_takeDeferred hK, ?_⟩⟩
    have hO' := (Boxed.kept hO (grownBy_putObj' W D (.deferred none)) (by simp; omega)).cell
    refine ⟨.string (txt (l.take k)), by simp [results, Tryz.results72, go_sem, hO'], ?_⟩
    exact ⟨grown_put hg (by omega) _, .inl ⟨k, c, r, h1, h2, hx, h3, rfl, Boxed.kept hRd (grownBy_putObj' W D _) (by simp; omega)⟩⟩
end Go.Proofs.YtehpjidajmoggaaGreatDoor.Quo
