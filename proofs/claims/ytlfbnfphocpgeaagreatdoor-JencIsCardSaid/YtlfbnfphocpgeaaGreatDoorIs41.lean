/- A part of what is_holds leans on (its texts, put together). Nothing is claimed here. -/
import Derived.Test.YtlfbnfphocpgeaaGreatDoorIs24
import Derived.Test.YtlfbnfphocpgeaaGreatDoorIs40
namespace Go.Proofs.YtlfbnfphocpgeaaGreatDoor.Jdec
open Go.RowKit Kit Txt
open Utf (nb)
open Tre (Val HoldF HoldP RowT RowC KsP)
theorem wp_pushT {ops : Array Oper} {rest : List Oper} {o : Oper} {a : Act} {w : World} {Q : Exit → Act → World → Prop} (hgd : o.guard = none) (s x : Operand)
   (ho : o.op = .call { callee := .builtin .append, args := #[s, x], argTypes := #[26, 26] }) (B : Nat) {u : Value} {ls : List (List UInt8)} {l : List UInt8} {N cap m : Nat} (hm : ls.length = m) (hs : a.eval s = u) (hx : a.eval x = .slice (some ⟨N, 0, none⟩) 1 cap)
   (hN : w.cell? ⟨N, 0, none⟩ = some (.string (txt l))) (h : RowT B w u ls) (hn : m < 1000000) (hbw : B ≤ w.heap.size)
   (hK : ∀ g cap' w', RowT B w' (.slice (some ⟨g, 0, none⟩) (m + 1) cap') (ls ++ [l]) → w.grownBy w' u.ownBlock → (u.ownBlock = some g ∨ g = w.heap.size) → wpList Tryz.prog ops Q rest (a.put o.dst (.slice (some ⟨g, 0, none⟩) (m + 1) cap')) w') :
   wpList Tryz.prog ops Q (o :: rest) a w := by
 subst hm
 obtain ⟨i0, hi, hz0, hz1, hz2⟩ := info_parts Tre.infoText
 refine wpList_append_lies w hgd s x 26 ho B 9 i0 (.string ⟨#[]⟩) 1 16 Tryz.underlying26 hi hz0 hz1 hz2 rfl (by decide) u ls.length _ hs h ⟨N, 0, none⟩ 1 cap [.string (txt l)] hx rfl ?_ (by simp [Value.oneCell']) (by decide) (by unfold maxLen; omega) (by omega) hbw w.heap.size rfl ?_
 · intro j y hy
   match j with
   | 0 =>
     simp at hy
     subst hy
     rw [Tre.addr_at, hN]
   | j + 1 => simp at hy
 · intro g cap' w' h2 h3 h4 _
   refine hK g cap' w' ?_ h3 h4
   unfold RowT
   rw [List.map_append, List.length_append]
   exact h2
theorem skipAt_ge {l : List UInt8} {i : Nat} (h : i ≤ l.length) : i ≤ skipAt l i := by
 unfold skipAt
 have := skip_le (l.drop i)
 rw [List.length_drop] at this
 omega
theorem TellE.bad2 {α : Type} {C : Value → α → Prop} {n j : Nat} {g : Got α} {r : List UInt8} (h : g = .no r j) {k : Int} (hk : k ≠ 0) (k0 : Int) (b0 b1 : Bool) (d : ByteArray) (x0 : Int) (t : ByteArray) (a1 : Option Addr) (n1 m1 : Nat) (a2 : Option Addr) (n2 m2 : Nat) (a p : Int) :
   TellE C n g (.returned (.agg #[.int .i64 k0, .bool b0, .bool b1, .string d, .int .i64 x0, .string t, .slice a1 n1 m1, .slice a2 n2 m2, .int .i64 a, .int .i64 p, .int .i64 k])) := ⟨_, _, _, _, _, _, _, _, _, _, _, _, _, _, _, rfl, .inr ⟨⟨r, j, h⟩, hk⟩⟩
theorem holdF_cells {S : Nat} {w : World} {v : Val} {z0 z1 z2 z3 z4 z5 z6 z7 : Value} (h : HoldF S w (.agg #[z0, z1, z2, z3, z4, z5, z6, z7]) v) : HoldP (S ≤ ·) w [z0, z1, z2, z3, z4, z5, z6, z7] v := by
 obtain ⟨cs, hu, hp⟩ := h
 injection hu with hu
 have e := congrArg Array.toList hu
 rw [List.toList_toArray] at e
 rw [show [z0, z1, z2, z3, z4, z5, z6, z7] = cs from e]
 exact hp
theorem many_start {val : List UInt8 → Got Val} {l : List UInt8} {q : Nat} {obj : Bool} (h : nb l q = (opening obj).toNat) :
   many val (l.drop q) = if nb l (skipAt l (q + 1)) = (close obj).toNat then .ok (made obj [] []) (l.drop (skipAt l (q + 1) + 1)) else items val obj [] [] (l.drop (skipAt l (q + 1))) := by
 have h1 : (l.drop q).head? = some (opening obj) := (head_at l q _ (by cases obj <;> decide)).2 h
 have e : decide ((l.drop q).head? = some 123) = obj := by
   rw [h1]
   cases obj <;> decide
 have hc := head_at l (skipAt l (q + 1)) (close obj) (by cases obj <;> decide)
 unfold many
 rw [e, List.tail_drop, ← skipAt_drop, List.tail_drop]
 simp only [hc]
theorem after_item {val : List UInt8 → Got Val} {l : List UInt8} {j : Nat} {obj : Bool} {ks : List (List UInt8)} {kids : List Val} :
   atHead val obj false ks kids (l.drop j) = if nb l j = (close obj).toNat then .ok (made obj ks kids) (l.drop (j + 1)) else if nb l j ≠ 44 then here (l.drop j) else items val obj ks kids (l.drop (skipAt l (j + 1))) := by
 have hc := head_at l j (close obj) (by cases obj <;> decide)
 have hd := head_at l j 44 (by decide)
 unfold atHead
 rw [List.tail_drop, ← skipAt_drop]
 simp only [hc, ne_eq, hd, Bool.false_eq_true, if_false]
 rfl
theorem part_lst (val : List UInt8 → Got Val) (keys : List (List UInt8)) (l : List UInt8) : part val false keys l = match val l with | .no r e => .no r e | .ok x r => .ok (keys, x) r := rfl
theorem part_field (val : List UInt8 → Got Val) (keys : List (List UInt8)) (l : List UInt8) : part val true keys l =
   match field keys l with
   | .no r e => .no r e
   | .ok k r1 => match val r1 with
     | .no r e => .no r e
     | .ok x r => .ok (keys ++ [k], x) r := by
 unfold part
 rw [show named true keys l = (match field keys l with | .ok k r => .ok (keys ++ [k]) r | .no r e => .no r e) from rfl]
 cases field keys l <;> rfl
theorem here_no {α : Type} (l : List UInt8) : ∃ r j, (here l : Got α) = .no r j := by
 unfold here
 split
 · exact ⟨_, _, rfl⟩
 · exact ⟨_, _, rfl⟩
theorem here_ne (l : List UInt8) (q : Nat) : hereE l q ≠ 0 := by unfold hereE; split <;> decide
def kindI (obj : Bool) : Int := if obj then 6 else 5
theorem made_holdF {B B0 : Nat} {w : World} {uk uv : Value} {keys : List (List UInt8)} {kids : List Val} {cs : List (List Value)} {N : Option Nat} (obj : Bool) (hT : RowT B w uk keys) (hC : RowC N B w uv kids cs) (hB : B0 ≤ B) :
   HoldF B0 w (.agg #[.int .i64 (kindI obj), .bool false, .bool false, .string ⟨#[]⟩, .int .i64 0, .string ⟨#[]⟩, uk, uv]) (made obj keys kids) := by
 obtain ⟨a, c, rfl, h1, h2, h3⟩ := hC.holds
 refine ⟨[.int .i64 (kindI obj), .bool false, .bool false, .string ⟨#[]⟩, .int .i64 0, .string ⟨#[]⟩, uk, .slice a kids.length c], rfl, ?_⟩
 unfold made
 rw [HoldP]
 refine ⟨uk, a, c, ?_, KsP.mono hT.holds (fun g h _ => Nat.le_trans hB h), h1, h2, ?_⟩
 · cases obj <;> rfl
 · rcases h3 with h | ⟨g, off, e, hg, hgl, hh⟩
   · exact .inl h
   · exact .inr ⟨g, off, e, Nat.le_trans hB hg, hgl, Tre.HoldsP.mono (fun g h _ => Nat.le_trans hB h) _ hh⟩
theorem holdF_set11 {S B g : Nat} {W : World} {u : Value} {v : Val} (h : HoldF S W u v) (hg : g < S) (hB : B ≤ S) (v0 v1 v2 v3 v4 v5 v6 v7 v8 v9 v10 : Value) :
   HoldF B (((((((((((W.setCell ⟨g, 0, none⟩ v0).setCell ⟨g, 1, none⟩ v1).setCell ⟨g, 2, none⟩ v2).setCell ⟨g, 3, none⟩ v3).setCell ⟨g, 4, none⟩ v4).setCell ⟨g, 5, none⟩ v5).setCell ⟨g, 6, none⟩ v6).setCell ⟨g, 7, none⟩ v7).setCell ⟨g, 8, none⟩ v8).setCell ⟨g, 9, none⟩ v9).setCell ⟨g, 10, none⟩ v10) u v := by
 obtain ⟨cs, hu, hp⟩ := h
 refine ⟨cs, hu, HoldP.mono (fun q hq _ => Nat.le_trans hB hq) v (HoldP.keep (by simp [World.setCell, Array.size_modify]) (fun k hk _ => ?_) v hp)⟩
 have hne : k ≠ g := by have : S ≤ k := hk; omega
 simp only [Tre.setc_other _ hne]
theorem new8R (w : World) (c : List Value) (_hc : c.length = 8) : ∀ j, j < 8 → (w.alloc (.cells c.toArray 29)).cell? ⟨w.heap.size, j, none⟩ = c[j]? := fun j _ => by
 rw [cell_of (World.alloc_heap_new w _)]
 simp
theorem rowT_block {B g : Nat} {w : World} {u : Value} {ls : List (List UInt8)} (h : RowT B w u ls) (e : u.ownBlock = some g) : ∃ cur : Array Value, w.heap[g]? = some (.cells cur 9 (0, 0)) := by
 rcases h.2 with ⟨rfl, _⟩ | ⟨g', cap, cur, rfl, _, hb, _⟩
 · cases e
 · have e' : g' = g := by simpa [Value.ownBlock] using e
   subst e'
   exact ⟨cur, hb⟩
structure Mid (B : Nat) (obj : Bool) (uk : Value) (keys : List (List UInt8)) (uv : Value) (kids : List Val) (cs : List (List Value)) (w : World) : Prop where
 base : B + 2 ≤ w.heap.size
 got : w.heap[B]? = some (.cells #[.int .i64 0, .bool false, .bool false, .string ⟨#[]⟩, .int .i64 0, .string ⟨#[]⟩, .slice none 0 0, .slice none 0 0, .int .i64 0, .int .i64 0, .int .i64 0] 31 (0, 0))
 val : w.heap[B + 1]? = some (.cells #[.int .i64 (kindI obj), .bool false, .bool false, .string ⟨#[]⟩, .int .i64 0, .string ⟨#[]⟩, uk, uv] 29 (0, 0))
 T : RowT (B + 2) w uk keys
 C : RowC uk.ownBlock (B + 2) w uv kids cs
theorem Mid.below {B : Nat} {obj : Bool} {uk uv : Value} {keys : List (List UInt8)} {kids : List Val} {cs : List (List Value)} {w w' : World} (h : Mid B obj uk keys uv kids cs w) (k : Below w.heap.size w w') : Mid B obj uk keys uv kids cs w' :=
 ⟨Nat.le_trans h.base k.size, (k.block _ (lt_of_heap h.got)).trans h.got, (k.block _ (lt_of_heap h.val)).trans h.val, h.T.below k, h.C.below k⟩
theorem Mid.first {B : Nat} (obj : Bool) {w : World} (h1 : B + 2 ≤ w.heap.size) (h2 : w.heap[B]? = some (.cells #[.int .i64 0, .bool false, .bool false, .string ⟨#[]⟩, .int .i64 0, .string ⟨#[]⟩, .slice none 0 0, .slice none 0 0, .int .i64 0, .int .i64 0, .int .i64 0] 31 (0, 0))) (h3 : w.heap[B + 1]? = some (.cells #[.int .i64 (kindI obj), .bool false, .bool false, .string ⟨#[]⟩, .int .i64 0, .string ⟨#[]⟩, .slice none 0 0, .slice none 0 0] 29 (0, 0))) : Mid B obj (.slice none 0 0) [] (.slice none 0 0) [] [] w :=
 ⟨h1, h2, h3, RowT.nil _ _, RowC.nil _ _ _⟩
theorem Mid.keys {B g cap : Nat} {obj : Bool} {uk uv : Value} {keys : List (List UInt8)} {kids : List Val} {cs : List (List Value)} {w w' : World} {k : List UInt8} {m : Nat} (h : Mid B obj uk keys uv kids cs w) (hT : RowT (B + 2) w' (.slice (some ⟨g, 0, none⟩) m cap) (keys ++ [k])) (hg : w.grownBy w' uk.ownBlock) (hn : uk.ownBlock = some g ∨ g = w.heap.size) :
   Mid B obj (.slice (some ⟨g, 0, none⟩) m cap) (keys ++ [k]) uv kids cs (w'.setCell ⟨B + 1, 6, none⟩ (.slice (some ⟨g, 0, none⟩) m cap)) := by
 have hl : ∀ x, uk.ownBlock = some x → B + 2 ≤ x := fun x e => (Tre.rowT_lt h.T x e).1
 have g2 := grown_cell w' (B + 1) 6 (.slice (some ⟨g, 0, none⟩) m cap)
 have hC : RowC (Value.slice (some ⟨g, 0, none⟩) m cap).ownBlock (B + 2) w' uv kids cs := h.C.renew hg (fun x e => Tre.rows_diff h.T h.C x e) (fun x e => by
   have e' := Tre.own_of e
   subst e'
   exact hn)
 refine ⟨?_, ?_, ?_, hT.other g2 (by omega), hC.other g2 (by omega)⟩
 · have := hg.size
   have := g2.size
   have := h.base
   omega
 · exact (g2.block _ (by have := hg.size; have := h.base; omega) (by simp)).trans ((hg.block _ (lt_of_heap h.got) (fun e => by have := hl _ e.symm; omega)).trans h.got)
 · have := set_of ((hg.block _ (lt_of_heap h.val) (fun e => by have := hl _ e.symm; omega)).trans h.val) 6 (.slice (some ⟨g, 0, none⟩) m cap)
   simpa using this
theorem Mid.kids {B g cap : Nat} {obj : Bool} {uk uv : Value} {keys : List (List UInt8)} {kids : List Val} {cs cs' : List (List Value)} {w w' : World} {x : Val} {m : Nat} (h : Mid B obj uk keys uv kids cs w) (hC : RowC uk.ownBlock (B + 2) w' (.slice (some ⟨g, 0, none⟩) m cap) (kids ++ [x]) cs') (hg : w.grownBy w' uv.ownBlock) :
   Mid B obj uk keys (.slice (some ⟨g, 0, none⟩) m cap) (kids ++ [x]) cs' (w'.setCell ⟨B + 1, 7, none⟩ (.slice (some ⟨g, 0, none⟩) m cap)) := by
 have hl : ∀ x, uv.ownBlock = some x → B + 2 ≤ x := fun x e => (h.C.own_lt x e).1
 have g2 := grown_cell w' (B + 1) 7 (.slice (some ⟨g, 0, none⟩) m cap)
 have hT : RowT (B + 2) w' uk keys := Tre.rowT_apart h.T h.C hg
 refine ⟨?_, ?_, ?_, hT.other g2 (by omega), hC.other g2 (by omega)⟩
 · have := hg.size
   have := g2.size
   have := h.base
   omega
 · exact (g2.block _ (by have := hg.size; have := h.base; omega) (by simp)).trans ((hg.block _ (lt_of_heap h.got) (fun e => by have := hl _ e.symm; omega)).trans h.got)
 · have := set_of ((hg.block _ (lt_of_heap h.val) (fun e => by have := hl _ e.symm; omega)).trans h.val) 7 (.slice (some ⟨g, 0, none⟩) m cap)
   simpa using this
theorem Mid.keysAt {B : Nat} {obj : Bool} {uk uv : Value} {keys : List (List UInt8)} {kids : List Val} {cs : List (List Value)} {w : World} (h : Mid B obj uk keys uv kids cs w) : KeysAt w uk keys := by
 obtain ⟨a, c, e, -, -, hh⟩ := h.T.holds
 exact ⟨a, c, e, hh.imp id fun ⟨g, off, h1, _, h2, h3⟩ => ⟨g, off, h1, h2, h3⟩⟩
end Go.Proofs.YtlfbnfphocpgeaaGreatDoor.Jdec
