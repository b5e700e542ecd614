/- A part of what is_holds leans on (its texts, put together). Nothing is claimed here. -/
import Derived.MakeChecks
import Derived.LaidMore
import Derived.Lib.Builder
import Derived.Lib.AppendStr
import Derived.Lib.UnsafeStr
import Derived.Laws.Externs
import Derived.Shelf.RegionOpenPlain
import Derived.Laws.World
import Derived.Test.YtlfbnfphocpgeaaGreatDoorIs27
namespace Go.Proofs.YtlfbnfphocpgeaaGreatDoor.Kit
open Go.ChangeShapes Go.WideShapes Go.ChangeAt Go.RowKit
def plainT (P : Program) : Nat → TypeId → Bool
 | 0, _ => false
 | f + 1, t => match P.underlying t with
   | some .bool => true
   | some (.int _) => true
   | some (.array n e) => plainT P f e && (n * P.cellsOf e == P.cellsOf t)
   | some (.struct fs) => fs.toList.all (fun x => plainT P f x.type) && (List.range (P.cellsOf t)).all (fun j => (List.range fs.size).any fun i => match fs[i]? with | some x => decide (x.offset ≤ j) && decide (j < x.offset + P.cellsOf x.type) | none => false)
   | _ => false
theorem chunk_at {cs ds : List Value} {o k j : Nat} (h : (cs.drop o).take k = (ds.drop o).take k) (h1 : o ≤ j) (h2 : j < o + k) : cs[j]? = ds[j]? := by
 have := congrArg (fun l => l[j - o]?) h
 simp only [List.getElem?_take, List.getElem?_drop] at this
 rw [if_pos (by omega), if_pos (by omega), show o + (j - o) = j by omega] at this
 exact this
theorem trod_inj {H : Type} {enc : TypeId × Value → H} {P : Program} {w : World} {base : Nat} {sp : Nat → Bool} {held : Bool} : ∀ (f : Nat) (t : TypeId) (a b : Nat) (cs ds : List Value) (d : DataW H) (p q : List MemPlace),
   plainT P f t = true → DataW.trod enc P w base sp held a t cs = some (d, p) → DataW.trod enc P w base sp held b t ds = some (d, q) → cs = ds
 | 0, _, _, _, _, _, _, _, _, h, _, _ => by simp [plainT] at h
 | f + 1, t, a, b, cs, ds, d, p, q, h, h1, h2 => by
   unfold plainT at h
   split at h
   · rename_i ht
     obtain ⟨x, rfl, e1⟩ := DataW.trod_bool ht h1
     obtain ⟨y, rfl, e2⟩ := DataW.trod_bool ht h2
     rw [Prod.mk.injEq] at e1 e2
     rw [e1.1] at e2
     have := e2.1
     simp at this
     rw [this]
   · rename_i k ht
     obtain ⟨x, rfl, e1, _⟩ := DataW.trod_int ht h1
     obtain ⟨y, rfl, e2, _⟩ := DataW.trod_int ht h2
     rw [Prod.mk.injEq] at e1 e2
     rw [e1.1] at e2
     have := e2.1
     simp at this
     rw [this]
   · rename_i n e ht
     rw [Bool.and_eq_true, beq_iff_eq] at h
     obtain ⟨xs, m, _, e1, l1, n1, k1⟩ := DataW.trod_array ht h1
     obtain ⟨ys, m', _, e2, l2, n2, k2⟩ := DataW.trod_array ht h2
     rw [Prod.mk.injEq] at e1 e2
     have he : xs.map (·.1) = ys.map (·.1) := by
       have := e1.1.symm.trans e2.1
       simpa using this
     refine List.ext_getElem? fun j => ?_
     by_cases hj : j < P.cellsOf t
     · have hk : 0 < P.cellsOf e := by
         rcases Nat.eq_zero_or_pos (P.cellsOf e) with h0 | h0
         · rw [h0] at h; omega
         · exact h0
       have hi : j / P.cellsOf e < n := by
         rw [Nat.div_lt_iff_lt_mul hk, h.2]; exact hj
       obtain ⟨x, hx⟩ : ∃ x, xs[j / P.cellsOf e]? = some x := ⟨_, List.getElem?_eq_getElem (by omega)⟩
       obtain ⟨y, hy⟩ : ∃ y, ys[j / P.cellsOf e]? = some y := ⟨_, List.getElem?_eq_getElem (by omega)⟩
       have r1 := (k1 _ hi).trans hx
       have r2 := (k2 _ hi).trans hy
       have hxy : x.1 = y.1 := by
         have := congrArg (fun l => l[j / P.cellsOf e]?) he
         simpa [hx, hy] using this
       obtain ⟨x1, x2⟩ := x
       obtain ⟨y1, y2⟩ := y
       obtain rfl : x1 = y1 := hxy
       have hc := trod_inj f e _ _ _ _ _ _ _ h.1 r1 r2
       have hm := Nat.div_add_mod j (P.cellsOf e)
       have hm2 := Nat.mod_lt j hk
       rw [Nat.mul_comm] at hm
       exact chunk_at hc (by omega) (by omega)
     · rw [List.getElem?_eq_none (by omega), List.getElem?_eq_none (by omega)]
   · rename_i fs ht
     rw [Bool.and_eq_true, List.all_eq_true, List.all_eq_true] at h
     obtain ⟨xs, m, _, e1, l1, n1, k1⟩ := DataW.trod_struct ht h1
     obtain ⟨ys, m', _, e2, l2, n2, k2⟩ := DataW.trod_struct ht h2
     rw [Prod.mk.injEq] at e1 e2
     have he : xs.map (·.1) = ys.map (·.1) := by
       have := e1.1.symm.trans e2.1
       simpa using this
     refine List.ext_getElem? fun j => ?_
     by_cases hj : j < P.cellsOf t
     · have hcov := h.2 j (List.mem_range.2 hj)
       rw [List.any_eq_true] at hcov
       obtain ⟨i, hi, hb⟩ := hcov
       split at hb
       · rename_i fd hfd
         rw [Bool.and_eq_true, decide_eq_true_eq, decide_eq_true_eq] at hb
         have hi' := List.mem_range.1 hi
         obtain ⟨x, hx⟩ : ∃ x, xs[i]? = some x := ⟨_, List.getElem?_eq_getElem (by omega)⟩
         obtain ⟨y, hy⟩ : ∃ y, ys[i]? = some y := ⟨_, List.getElem?_eq_getElem (by omega)⟩
         have r1 := (k1 i fd hfd).trans hx
         have r2 := (k2 i fd hfd).trans hy
         have hxy : x.1 = y.1 := by
           have := congrArg (fun l => l[i]?) he
           simpa [hx, hy] using this
         obtain ⟨x1, x2⟩ := x
         obtain ⟨y1, y2⟩ := y
         obtain rfl : x1 = y1 := hxy
         have hpl : plainT P f fd.type = true := h.1 fd (by
           have := Array.mem_of_getElem? hfd
           simpa using this)
         exact chunk_at (trod_inj f fd.type _ _ _ _ _ _ _ hpl r1 r2) hb.1 hb.2
       · cases hb
     · rw [List.getElem?_eq_none (by omega), List.getElem?_eq_none (by omega)]
   · cases h
end Go.Proofs.YtlfbnfphocpgeaaGreatDoor.Kit
namespace Go.Proofs.YtlfbnfphocpgeaaGreatDoor.Utf
open Go.ChangeShapes Go.WideShapes Go.ChangeAt Go.RowKit Kit
theorem gKinds : Tryz.prog.globalNamed "tabularium/utf.kinds" = some 5 := by kernel_rfl
theorem tKinds : (Tryz.prog.globals[5]?).map (·.type) = some 227 := by kernel_rfl
theorem plainKinds : plainT Tryz.prog 5 227 = true := by kernel_rfl
theorem readsKinds (W : World) : DataW.trod (fun _ => ()) Tryz.prog W 0 (fun _ => true) false 5 227 kcells.toList = some (Rows.laid_tabularium_utf_kinds, []) := by kernel_rfl
end Go.Proofs.YtlfbnfphocpgeaaGreatDoor.Utf
namespace Go.Proofs.YtlfbnfphocpgeaaGreatDoor.Jdec
open Go.ChangeShapes Go.WideShapes Go.ChangeAt Go.RowKit Kit
theorem gNext : Tryz.prog.globalNamed "tabularium/num.next" = some 0 := by kernel_rfl
theorem tNext : (Tryz.prog.globals[0]?).map (·.type) = some 129 := by kernel_rfl
theorem plainNext : plainT Tryz.prog 5 129 = true := by kernel_rfl
theorem readsNext (W : World) : DataW.trod (fun _ => ()) Tryz.prog W 0 (fun _ => true) false 5 129 Num.tcells.toList = some (Rows.laid_tabularium_num_next, []) := by kernel_rfl
theorem listed {P : Program} {w : World} : ∀ {l : List (String × DataW Unit)} {ps : List MemPlace}, DataW.LaidVars P w l ps → ∀ {n : String} {d : DataW Unit}, (n, d) ∈ l →
   ∃ g t cs f p, P.globalNamed n = some g ∧ (P.globals[g]?).map (·.type) = some t ∧ w.var? P n = some cs ∧ DataW.trod (fun _ => ()) P w 0 (fun _ => true) false f t cs.toList = some (d, p)
 | [], _, _, _, _, hm => by cases hm
 | (n', d') :: r, ps, h, n, d, hm => by
   obtain ⟨g, t, cs, fuel, p, q, h1, h2, h3, h4, h5, _⟩ := h
   rcases List.mem_cons.1 hm with e | e
   · cases e
     exact ⟨g, t, cs, fuel, p, h1, h2, h3, h4⟩
   · exact listed h5 e
theorem laid_ok {W : World} {laid : List (String × DataW Unit)} (h : laidMetH Tryz.prog laid W) (hp : (laid.all fun x => x.2.handleName?.isNone) = true)
   (h1 : ("tabularium/num.next", Rows.laid_tabularium_num_next) ∈ laid) (h2 : ("tabularium/utf.kinds", Rows.laid_tabularium_utf_kinds) ∈ laid) : Ok W := by
 rw [MakeChecks.laidMetH_plain _ _ _ hp] at h
 obtain ⟨ps, hv, _⟩ := h
 constructor
 · obtain ⟨g, t, cs, f, p, hg, ht, hvr, hd⟩ := listed hv h2
   obtain rfl := Option.some.inj (Utf.gKinds.symm.trans hg)
   obtain rfl := Option.some.inj (Utf.tKinds.symm.trans ht)
   have e := trod_inj 5 227 _ _ _ _ _ _ _ Utf.plainKinds hd (Utf.readsKinds W)
   unfold World.var? at hvr
   rw [Utf.gKinds] at hvr
   simp only [Option.bind_some] at hvr
   split at hvr
   · rename_i c ty fr hh
     have : c = cs := Option.some.inj hvr
     subst this
     have : c = Utf.kcells := by
       rw [← Array.toArray_toList (xs := c), e]
     subst this
     exact ⟨_, _, hh⟩
   · cases hvr
 · obtain ⟨g, t, cs, f, p, hg, ht, hvr, hd⟩ := listed hv h1
   obtain rfl := Option.some.inj (gNext.symm.trans hg)
   obtain rfl := Option.some.inj (tNext.symm.trans ht)
   have e := trod_inj 5 129 _ _ _ _ _ _ _ plainNext hd (readsNext W)
   unfold World.var? at hvr
   rw [gNext] at hvr
   simp only [Option.bind_some] at hvr
   split at hvr
   · rename_i c ty fr hh
     have : c = cs := Option.some.inj hvr
     subst this
     have : c = Num.tcells := by
       rw [← Array.toArray_toList (xs := c), e]
     subst this
     exact ⟨_, _, hh⟩
   · cases hvr
end Go.Proofs.YtlfbnfphocpgeaaGreatDoor.Jdec
namespace Go.Proofs.YtlfbnfphocpgeaaGreatDoor.Jdec
open Tre (Val)
end Go.Proofs.YtlfbnfphocpgeaaGreatDoor.Jdec
namespace Go.Proofs.YtlfbnfphocpgeaaGreatDoor.Jdec
open Go.RowKit Kit Txt
open Tre (Val HoldF HoldV zeroV)
end Go.Proofs.YtlfbnfphocpgeaaGreatDoor.Jdec
namespace Go.Proofs.YtlfbnfphocpgeaaGreatDoor.Jdec
open Go.RowKit Kit Txt
open Tre (Val HoldF HoldV zeroV none')
end Go.Proofs.YtlfbnfphocpgeaaGreatDoor.Jdec
namespace Go.Proofs.YtlfbnfphocpgeaaGreatDoor.Jdec
open Go.RowKit Kit Txt
open Tre (Val HoldF HoldV zeroV none')
theorem ParseTold.form {s : List UInt8} {w : World} {e : Ending} {w' : World} (h : ParseTold s w e w') : ∃ (k : Int) (b : Bool) (n : Num.Dec) (t : List UInt8) (pk : Option Addr) (lk ck : Nat) (a : Option Addr) (lv c : Nat) (p ek : Int),
   e = .returned (.tuple #[.agg #[.int .i64 k, .bool b, .bool n.neg, .string (txt n.dig), .int .i64 n.exp, .string (txt t), .slice pk lk ck, .slice a lv c], .int .i64 p, .int .i64 ek]) := by
 obtain ⟨-, h⟩ := h
 cases hp : parse s with
 | ok v r =>
   rw [hp] at h
   obtain ⟨y, rfl, hy⟩ := h
   obtain ⟨pk, ck, a, c, rfl⟩ := holdF_form hy
   exact ⟨_, _, v.num, v.str, _, _, _, _, _, _, _, _, rfl⟩
 | no r k =>
   rw [hp] at h
   exact ⟨0, false, Num.zero, [], _, _, _, _, _, _, _, _, h⟩
end Go.Proofs.YtlfbnfphocpgeaaGreatDoor.Jdec
namespace Go.Proofs.YtlfbnfphocpgeaaGreatDoor.Emb
open Go.RowKit Kit Txt
theorem sizeB : (Tryz.prog.info? 62).map (·.size) = some 2 := by kernel_rfl
theorem infoByte : (Tryz.prog.info? 5).map (fun i => (i.zero, i.size, i.bytes)) = some (some (.int .u8 0), 1, 1) := by kernel_rfl
theorem cellsByte : Tryz.prog.cellsOf 5 = 1 := by kernel_rfl
def Lies (T : TypeId) (n : Nat) : Prop := liesAt Tryz.prog Tryz.prog.depth T (n / Tryz.prog.cellsOf T) 0 62 1 = true ∧ T ≠ 5
def At (T : TypeId) (B b : Nat) (p : Value) (l : List UInt8) (rest : List Value) (w : World) : Prop :=
 B ≤ b ∧ B ≤ w.heap.size ∧ ∃ v, w.heap[b]? = some (.cells (p :: v :: rest).toArray T (0, 0)) ∧ w.ownsRow B 5 1 v l.length (Lib.byteCells l) ∧ v.ownBlock ≠ some b
def Emb (T : TypeId) (B b : Nat) (l : List UInt8) (rest : List Value) (w : World) : Prop := At T B b (.pointer none) l rest w ∨ At T B b (.pointer (some ⟨b, 0, none⟩)) l rest w
theorem At.lt {T : TypeId} {B b : Nat} {p : Value} {l : List UInt8} {rest : List Value} {w : World} (h : At T B b p l rest w) : b < w.heap.size := by
 obtain ⟨_, _, v, hb, _⟩ := h
 exact lt_of_heap hb
theorem At.cell {T : TypeId} {B b : Nat} {p : Value} {l : List UInt8} {rest : List Value} {w : World} (h : At T B b p l rest w) : w.cell? ⟨b, 0, none⟩ = some p := by
 obtain ⟨_, _, v, hb, _⟩ := h
 rw [cell_of hb]
 rfl
theorem At.used {T : TypeId} {B b : Nat} {p : Value} {l : List UInt8} {rest : List Value} {w : World} (h : At T B b p l rest w) (q : Value) : At T B b q l rest (w.setCell ⟨b, 0, none⟩ q) := by
 obtain ⟨hB, hw, v, hb, hown, hne⟩ := h
 refine ⟨hB, by simpa [World.setCell] using hw, v, ?_, ?_, hne⟩
 · have := set_of hb 0 q
   simpa using this
 · exact hown.kept (row := some b) ⟨rfl, rfl, rfl, by simp [World.setCell], fun k _ hk => Below.heap_setCell _ _ _ _ (fun e => hk (by simp [e]))⟩ (Or.inr hne)
theorem At.kept {T : TypeId} {B b : Nat} {p : Value} {l : List UInt8} {rest : List Value} {w w' : World} (h : At T B b p l rest w) (k : Below w.heap.size w w') : At T B b p l rest w' := by
 have hlt := h.lt
 obtain ⟨hB, hw, v, hb, hown, hne⟩ := h
 refine ⟨hB, Nat.le_trans hw k.size, v, (k.block b hlt).trans hb, hown.kept (row := none) ⟨k.os, k.tape, k.output, k.size, fun i hi _ => k.block i hi⟩ ?_, hne⟩
 cases hv : v.ownBlock with
 | none => exact .inl rfl
 | some g => exact .inr (by simp)
theorem Emb.kept {T : TypeId} {B b : Nat} {l : List UInt8} {rest : List Value} {w w' : World} (h : Emb T B b l rest w) (k : Below w.heap.size w w') : Emb T B b l rest w' := h.imp (fun h => h.kept k) (fun h => h.kept k)
theorem Emb.lt {T : TypeId} {B b : Nat} {l : List UInt8} {rest : List Value} {w : World} (h : Emb T B b l rest w) : B ≤ b ∧ B ≤ w.heap.size ∧ b < w.heap.size := h.elim (fun h => ⟨h.1, h.2.1, h.lt⟩) (fun h => ⟨h.1, h.2.1, h.lt⟩)
theorem Emb.new {T : TypeId} (w : World) (rest : List Value) : Emb T w.heap.size w.heap.size [] rest (w.alloc (.cells (.pointer none :: .slice none 0 0 :: rest).toArray T)) :=
 .inl ⟨Nat.le_refl _, by simp, _, World.alloc_heap_new w _, World.ownsRow_nil _ _ _ _, by simp [Value.ownBlock]⟩
def Turn (B b : Nat) (w w' : World) : Prop := Below B w w' ∧ ∀ k cs T fr, k ≠ b → T ≠ 5 → w.heap[k]? = some (.cells cs T fr) → w'.heap[k]? = some (.cells cs T fr)
theorem Turn.refl (B b : Nat) (w : World) : Turn B b w w := ⟨Below.refl _ _, fun _ _ _ _ _ _ h => h⟩
theorem Turn.trans {B b : Nat} {w w1 w2 : World} (h : Turn B b w w1) (k : Turn B b w1 w2) : Turn B b w w2 := ⟨h.1.trans k.1, fun i cs T fr h1 h2 h3 => k.2 i cs T fr h1 h2 (h.2 i cs T fr h1 h2 h3)⟩
theorem Turn.of_below {B b : Nat} {w w' : World} (h : Below w.heap.size w w') (hB : B ≤ w.heap.size) : Turn B b w w' := ⟨h.mono hB, fun i _ _ _ _ _ h3 => (h.block i (lt_of_heap h3)).trans h3⟩
theorem Turn.set {B b : Nat} {w w' : World} (h : Turn B b w w') (hB : B ≤ b) (i : Nat) (v : Value) : Turn B b w (w'.setCell ⟨b, i, none⟩ v) :=
 ⟨h.1.setCell (p := ⟨b, i, none⟩) hB v, fun k cs T fr h1 h2 h3 => (Below.heap_setCell _ _ _ _ (fun e => h1 e)).trans (h.2 k cs T fr h1 h2 h3)⟩
theorem Turn.grown {B b n : Nat} {w w' w2 : World} {v : Value} {xs : List Value} (h : Turn B b w w') (hB : B ≤ w'.heap.size) (hown : w'.ownsRow B 5 1 v n xs) (hg : w'.grownBy w2 v.ownBlock) : Turn B b w w2 :=
 ⟨h.1.grown hg hB (fun k hk => (hown.lt k hk).1), fun k cs T fr h1 h2 h3 => by
   have h4 := h.2 k cs T fr h1 h2 h3
   exact (hg.block k (lt_of_heap h4) (fun e => Lib.ownBlock_ne hown h4 h2 e.symm)).trans h4⟩
set_option maxHeartbeats 1000000 in
set_option maxRecDepth 100000 in
theorem check_any {T : TypeId} {B b : Nat} {l : List UInt8} {rest : List Value} {w : World} (hT : Lies T (rest.length + 2)) (h : Emb T B b l rest w) :
   Calls Tryz.prog 139 #[.pointer (some ⟨b, 0, none⟩)] w fun e w' => e = .returned (.tuple #[]) ∧ At T B b (.pointer (some ⟨b, 0, none⟩)) l rest w' ∧ Turn B b w w' := by
 obtain ⟨j, hj, hjs⟩ := Option.map_eq_some_iff.1 sizeB
 rcases h with h | h
 · have h0 := h.cell
   have hsh : w.shape? b = some (T, rest.length + 2) := by
     obtain ⟨_, _, v, hb, _⟩ := h
     simp [World.shape?, hb]
   have hfz : w.frozen? ⟨b, 0, none⟩ = false := by
     obtain ⟨_, _, v, hb, _⟩ := h
     exact free_of hb 0
   have hto : (convert 59 182 (.pointer (some ⟨b, 0, none⟩))).run Tryz.prog w = .ok (.pointer (some ⟨b, 0, none⟩)) w := Lib.run_to_unsafe w ⟨b, 0, none⟩ Tryz.underlying59 Tryz.underlying182 hj (by rw [hjs]; decide) hsh (by show 0 < _; omega)
   have hfrom : (convert 182 59 (.pointer (some ⟨b, 0, none⟩))).run Tryz.prog w = .ok (.pointer (some ⟨b, 0, none⟩)) w := Lib.run_from_unsafe w ⟨b, 0, none⟩ Tryz.underlying182 Tryz.underlying59 hj hsh hT.1
   have hfin := h.used (.pointer (some ⟨b, 0, none⟩))
   have hbl : Turn B b w (w.setCell ⟨b, 0, none⟩ (.pointer (some ⟨b, 0, none⟩))) := (Turn.refl B b w).set h.1 _ _
   have HF := Lib.hid (And.intro hfin hbl)
   clear hfin hbl h
   go_enter Tryz.func139, Tryz.ntmps139
   go_wp2
   rw [run_callFunc_extern Tryz.func165 (by kernel_rfl) (by kernel_rfl) (by kernel_rfl) (e := Extern.AbiNoEscape.same) (by kernel_rfl)]
   rw [Lib.run_noEscape]
   simp only [Result.andThen]
   rw [Oper.upon_value]
   go_wp2
   go_end0
   exact ⟨rfl, HF.out.1, HF.out.2⟩
 · have h0 := h.cell
   have heq := fun wx => Lib.run_neq_ptr_same wx (⟨b, 0, none⟩ : Addr) Tryz.underlying59 hj
   have HF := Lib.hid h
   clear h
   go_enter Tryz.func139, Tryz.ntmps139
   go_wp2
   go_end0
   exact ⟨rfl, HF.out, Turn.refl B b _⟩
theorem At.put {T : TypeId} {B b : Nat} {p v v' : Value} {m : List UInt8} {rest : List Value} {w : World} (hT : T ≠ 5) (hB : B ≤ b) (hw : B ≤ w.heap.size) (hb : w.heap[b]? = some (.cells (p :: v :: rest).toArray T (0, 0))) (hown : w.ownsRow B 5 1 v' m.length (Lib.byteCells m)) : At T B b p m rest (w.setCell ⟨b, 1, none⟩ v') := by
 have hne := Lib.ownBlock_ne hown hb hT
 refine ⟨hB, by simpa [World.setCell] using hw, v', ?_, ?_, hne⟩
 · have := set_of hb 1 v'
   simpa using this
 · exact hown.kept (row := some b) ⟨rfl, rfl, rfl, by simp [World.setCell], fun k _ hk => Below.heap_setCell _ _ _ _ (fun e => hk (by simp [e]))⟩ (Or.inr hne)
theorem cells_app (l m : List UInt8) : Lib.byteCells l ++ Lib.byteCells m = Lib.byteCells (l ++ m) := by simp [Lib.byteCells]
set_option maxHeartbeats 2000000 in
set_option maxRecDepth 100000 in
theorem str_any {T : TypeId} {B b : Nat} {l m : List UInt8} {rest : List Value} {w : World} (hT : Lies T (rest.length + 2)) (h : Emb T B b l rest w) (hlen : l.length + m.length ≤ 140737488355328) :
   Calls Tryz.prog 108 #[.pointer (some ⟨b, 0, none⟩), .string (txt m)] w fun e w' => e = .returned (.tuple #[.int .i64 (m.length : Int), .nilIface]) ∧ At T B b (.pointer (some ⟨b, 0, none⟩)) (l ++ m) rest w' ∧ Turn B b w w' := by
 have hs := txt_size m
 obtain ⟨i0, hi, hz0, hz1, hz2⟩ := info_parts infoByte
 go_enter Tryz.func108, Tryz.ntmps108
 go_wp2_with fail
 refine (check_any hT h).mono ?_
 rintro e w1 ⟨rfl, h1, hb1⟩
 obtain ⟨hB, hw1, v, hbk, hown, hne⟩ := h1
 have c0 : w1.cell? ⟨b, 0, none⟩ = some (.pointer (some ⟨b, 0, none⟩)) := by rw [cell_of hbk]; rfl
 have c1 : w1.cell? ⟨b, 1, none⟩ = some v := by rw [cell_of hbk]; rfl
 go_wp2_with (at_builtin; refine Lib.wpList_append_own_string _ rfl _ _ 60 9 rfl B 5 i0 Tryz.underlying60 Tryz.underlying9 hi hz0 hz1 hz2 _ _ _ rfl hown (txt m) rfl ?c3 ?c4 ?c5 ?_)
 case c3 => unfold maxLen; omega
 case c4 => omega
 case c5 => exact hw1
 intro v' w2 hown' hgrow _
 have hlt := lt_of_heap hbk
 have hb2 : w2.heap[b]? = some (.cells (.pointer (some ⟨b, 0, none⟩) :: v :: rest).toArray T (0, 0)) := by
   rw [hgrow.block b hlt (fun e => hne e.symm)]
   exact hbk
 have d1 : w2.cell? ⟨b, 1, none⟩ = some v := by rw [cell_of hb2]; rfl
 have f1 : w2.frozen? ⟨b, 1, none⟩ = false := free_of hb2 1
 obtain ⟨ao, n', cap, rfl⟩ : ∃ ao n' cap, v' = .slice ao n' cap := by
   rcases hown'.2 with ⟨hv, _⟩ | ⟨g, cap, cur, hv, _⟩
   · exact ⟨_, _, _, hv⟩
   · exact ⟨_, _, _, hv⟩
 have hown2 : w2.ownsRow B 5 1 (.slice ao n' cap) (l ++ m).length (Lib.byteCells (l ++ m)) := by
   rw [← cells_app, List.length_append]
   have e : Lib.strCells (txt m) = Lib.byteCells m := rfl
   rw [e] at hown'
   exact hown'
 have hfin := At.put hT.2 hB (Nat.le_trans hw1 hgrow.size) hb2 hown2
 have hbl : Turn B b w (w2.setCell ⟨b, 1, none⟩ (.slice ao n' cap)) := (hb1.grown hw1 hown hgrow).set hB _ _
 have HF := Lib.hid (And.intro hfin hbl)
 clear hfin hbl hown2 hown' hown hgrow hb2 hbk
 go_wp2
 go_ret2
 exact ⟨rfl, HF.out.1, HF.out.2⟩
set_option maxHeartbeats 1000000 in
set_option maxRecDepth 100000 in
theorem string_any {T : TypeId} {B b : Nat} {l : List UInt8} {rest : List Value} {w : World} (h : Emb T B b l rest w) (h0 : l ≠ []) :
   Calls Tryz.prog 30 #[.pointer (some ⟨b, 0, none⟩)] w fun e w' => e = .returned (.string (txt l)) ∧ Below B w w' := by
 obtain ⟨p, hB, hBw, v, hbk, hown, hne⟩ : ∃ p, At T B b p l rest w := h.elim (fun h => ⟨_, h⟩) (fun h => ⟨_, h⟩)
 have hl0 : l.length ≠ 0 := by simpa using h0
 obtain ⟨g, cap, cur, rfl, hbg, hg, hnc, hcm, hcs, htake⟩ : ∃ g cap cur, v = .slice (some ⟨g, 0, none⟩) l.length cap ∧ B ≤ g ∧ w.heap[g]? = some (.cells cur 5 (0, 0)) ∧ l.length ≤ cap ∧ cap ≤ maxLen ∧ cur.size = cap * 1 ∧ cur.toList.take (l.length * 1) = Lib.byteCells l := by
   rcases hown.2 with ⟨_, hz⟩ | ⟨g, cap, cur, hv, r⟩
   · exact absurd hz hl0
   · exact ⟨g, cap, cur, hv, r⟩
 have c1 : w.drew.cell? ⟨b, 1, none⟩ = some (.slice (some ⟨g, 0, none⟩) l.length cap) := by
   have : w.drew.heap[b]? = some (.cells (p :: .slice (some ⟨g, 0, none⟩) l.length cap :: rest).toArray T (0, 0)) := hbk
   rw [cell_of this]; rfl
 have hSD : (Builtin.unsafeSliceData_ #[60] 87 #[.slice (some ⟨g, 0, none⟩) l.length cap]).run Tryz.prog w.drew = .ok (.pointer (some ⟨g, 0, none⟩)) w.drew :=
   Lib.run_unsafeSliceData_row _ _ _ _ _ _ (by omega)
 have hUS : (Builtin.unsafeString_ #[87, 3] 9 #[.pointer (some ⟨g, 0, none⟩), .int .i64 l.length]).run Tryz.prog w.drew = .ok (.string ⟨l.toArray⟩) (w.drew.freeze ⟨g, 0, none⟩ l.length) := by
   refine Lib.run_unsafeString_row w.drew 87 3 9 5 Tryz.underlying87 cellsByte g cur.size (by have hg' : w.drew.heap[g]? = some (.cells cur 5 (0, 0)) := hg; simp [World.shape?, hg']) l h0 (by omega) (by unfold maxLen at hcm; omega) ?_
   intro j x hx
   exact hown.cells (g := g) rfl j (.int .u8 x.toNat) (by simp [Lib.byteCells, hx])
 have HB := Lib.hid (Lib.below_freeze (Below.drew (Below.refl B w)) (p := ⟨g, 0, none⟩) hbg l.length)
 have mixed : Tryz.prog.follows .mixedOrders = true := by kernel_rfl
 clear hown htake hg hbk hne hBw
 go_enter Tryz.func30, Tryz.ntmps30
 go_wp2
 go_region_o
 all_goals (go_wp2; go_ret; exact ⟨rfl, HB.out⟩)
end Go.Proofs.YtlfbnfphocpgeaaGreatDoor.Emb
namespace Go.Proofs.YtlfbnfphocpgeaaGreatDoor.Tre
open Go.RowKit Kit Txt
open Num (Dec zero)
structure StrStep (D : Nat → Prop) (k : Nat) (w w' : World) : Prop where
 os : w'.os = w.os
 tape : w'.tape = w.tape
 output : w'.output = w.output
 size : w'.heap.size = w.heap.size
 block : ∀ g, ¬ D g → w'.heap[g]? = w.heap[g]?
 cell : ∀ g i, w'.cell? ⟨g, i, none⟩ = w.cell? ⟨g, i, none⟩ ∨ ∃ s t : ByteArray, w.cell? ⟨g, i, none⟩ = some (.string s) ∧ w'.cell? ⟨g, i, none⟩ = some (.string t) ∧ t.size ≤ s.size + k
 frozen : ∀ g i, w'.frozen? ⟨g, i, none⟩ = w.frozen? ⟨g, i, none⟩
theorem cell_keep {w w' : World} {g i : Nat} {v : Value} (h : w.cell? ⟨g, i, none⟩ = some v) (hk : w'.heap[g]? = w.heap[g]?) : w'.cell? ⟨g, i, none⟩ = some v := by
 rw [← h]
 unfold World.cell?
 rw [hk]
end Go.Proofs.YtlfbnfphocpgeaaGreatDoor.Tre
namespace Go.Proofs.YtlfbnfphocpgeaaGreatDoor.Tre
open Go.RowKit Kit Txt
open Num (Dec zero)
theorem HoldsP.at {X : Nat → Prop} {w : World} {g : Nat} : ∀ {vs : List Val} {off : Nat}, HoldsP X w g off vs → ∀ {i : Nat} {v : Val}, vs[i]? = some v → ∃ cs, At8 w g (off + i * 8) cs ∧ HoldP X w cs v
 | [], _, _, _, _, hi => by simp at hi
 | x :: r, off, h, 0, v, hi => by
   rw [HoldsP] at h
   simp at hi
   subst hi
   simpa using h.1
 | x :: r, off, h, i + 1, v, hi => by
   rw [HoldsP] at h
   have := HoldsP.at h.2 (i := i) (v := v) (by simpa using hi)
   rwa [show off + (i + 1) * 8 = off + 8 + i * 8 by omega]
def HoldU (B : Nat) (w : World) (u : Value) (v : Val) : Prop := ∃ cs : List Value, u = .agg cs.toArray ∧ HoldP (· < B) w cs v
theorem HoldU.of {w : World} {u : Value} {v : Val} (h : HoldV w u v) : HoldU w.heap.size w u v := by
 obtain ⟨cs, hu, hc⟩ := h
 exact ⟨cs, hu, HoldP.mono (fun g _ hlt => hlt) v (HoldP.of v hc)⟩
end Go.Proofs.YtlfbnfphocpgeaaGreatDoor.Tre
namespace Go.Proofs.YtlfbnfphocpgeaaGreatDoor.Tre
open Go.RowKit Kit Txt
open Num (Dec zero)
end Go.Proofs.YtlfbnfphocpgeaaGreatDoor.Tre
