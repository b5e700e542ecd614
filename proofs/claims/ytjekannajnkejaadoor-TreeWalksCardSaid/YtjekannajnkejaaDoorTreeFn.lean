/- The contracts of package tree as it landed, in the words that the laws' walks take. What the laws' rows of layer 8 are given of the table utf.kinds. Nothing is claimed here. -/
import Derived.Test.YtjekannajnkejaaDoorTreeRef
import Derived.Test.YtjekannajnkejaaDoorTreeFnS
import Derived.Test.YtjekannajnkejaaDoorTreeFnC
import Derived.Test.YtjekannajnkejaaDoorTreeFnR
import Derived.Test.YtjekannajnkejaaDoorTreeFnA
import Derived.Test.YtjekannajnkejaaDoorTreeFnO3
import Derived.Test.YtjekannajnkejaaDoorTreeAt
import Derived.Test.YtjekannajnkejaaDoorUtfLaid
namespace Go.Proofs.YtjekannajnkejaaDoor.Tre
open Go.RowKit Kit Txt
/-- What the world must hold: utf's table. -/
def Ok (w : World) : Prop := Utf.Laid w
theorem Ok.below {w w' : World} (h : Ok w) (k : Below w.heap.size w w') : Ok w' := Utf.Laid.below h k (Utf.Laid.lt h)
theorem tright_any {w : World} (ho : Ok w) {v : Val} {u : Value} (hm : Mild v) (h : HoldV w u v) : Calls Tryd.prog 10 #[u] w (Tells (Right v) w) := tright_of hm ho h
theorem tdeep_any {w : World} (_ho : Ok w) {v : Val} {u : Value} (hm : Mild v) (h : HoldV w u v) : Calls Tryd.prog 12 #[u] w fun e w' => e = .returned (.int .i64 (deep v)) ∧ Below w.heap.size w w' := tdeep_of v w u (by obtain ⟨d, hd⟩ := hm; have := fine_deep v d hd; omega) h
theorem tsort_any {w : World} (ho : Ok w) {v : Val} {u : Value} (hm : Mild v) (hc : count v < 1000000) (h : HoldV w u v) : Calls Tryd.prog 14 #[u] w fun e w' => (∃ y, e = .returned y ∧ (Right v → HoldV w' y (sort v)) ∧ (¬ Right v → HoldV w' y v)) ∧ Below w.heap.size w w' := tsort_of ho hm hc h
theorem tsame_any {w : World} (_ho : Ok w) {v v' : Val} {u u' : Value} (_hm : Mild v) (_hm' : Mild v') (h : HoldV w u v) (h' : HoldV w u' v') : Calls Tryd.prog 17 #[u, u'] w (Tells (v = v') w) := tsame_of v v' w u u' h h'
theorem ats_one (v : Val) (key : List UInt8) : ats v [key] = get v key := by
  unfold ats
  cases get v key with
  | none => rfl
  | some x => rfl
theorem tgetX_any {X : Nat → Prop} {w : World} (_ho : Ok w) {v : Val} {u : Value} {key : List UInt8} (hm : Mild v) (hc : count v < 1000000) (h : HoldX X w u v) : Calls Tryd.prog 20 #[u, .string (txt key)] w fun e w' => (∃ y, e = .returned (.tuple #[y, .bool (get v key).isSome]) ∧ HoldX (fun g => X g ∨ w.heap.size ≤ g) w' y ((get v key).getD none')) ∧ Below w.heap.size w w' := by
  refine (tget_of hm hc h.hold).mono ?_
  rintro e w' ⟨⟨y, rfl, hy⟩, k⟩
  rw [ats_one] at hy ⊢
  obtain ⟨cs, hcs, hP⟩ := hy
  exact ⟨⟨_, rfl, cs, hcs, HoldP.mono (fun g h _ => .inr h) _ hP⟩, k⟩
theorem tget_any {w : World} (ho : Ok w) {v : Val} {u : Value} {key : List UInt8} (hm : Mild v) (hc : count v < 1000000) (h : HoldV w u v) : Calls Tryd.prog 20 #[u, .string (txt key)] w fun e w' => (∃ y, e = .returned (.tuple #[y, .bool (get v key).isSome]) ∧ HoldV w' y ((get v key).getD none')) ∧ Below w.heap.size w w' :=
  (tgetX_any ho hm hc h.x).mono fun _ _ ⟨⟨y, he, hy⟩, k⟩ => ⟨⟨y, he, hy.hold⟩, k⟩
theorem tat_any {w : World} (_ho : Ok w) {v : Val} {u p : Value} {path : List (List UInt8)} (hm : Mild v) (hc : count v < 1000000) (_hl : path.length ≤ 60) (h : HoldV w u v) (hp : Ks w p path) : Calls Tryd.prog 22 #[u, p] w fun e w' => (∃ y, e = .returned (.tuple #[y, .bool (ats v path).isSome]) ∧ HoldV w' y ((ats v path).getD none')) ∧ Below w.heap.size w w' := by
  refine (tat_of hm hc h hp).mono ?_
  rintro e w' ⟨⟨y, rfl, hy⟩, k⟩
  exact ⟨⟨_, rfl, hy.hold⟩, k⟩
theorem tcopy_any {w : World} (_ho : Ok w) {v : Val} {u : Value} (hm : Mild v) (hc : count v < 1000000) (h : HoldV w u v) : Calls Tryd.prog 18 #[u] w fun e w' => (∃ y, e = .returned y ∧ HoldF w.heap.size w' y v ∧ ShpU (fun g => w.heap.size ≤ g ∧ g < w'.heap.size) 2000 w' y v) ∧ Below w.heap.size w w' := by
  refine (tcopy_of v hm hc w u h).mono ?_
  rintro e w' ⟨⟨cs, rfl, hs⟩, k⟩
  obtain ⟨d, hd⟩ := hm
  exact ⟨⟨_, rfl, ⟨cs, rfl, HoldP.mono (fun g h _ => h.1) v (Sep.holdP v hs)⟩, Sep.shpU hd hs⟩, k⟩
end Go.Proofs.YtjekannajnkejaaDoor.Tre
namespace Go.Proofs.YtjekannajnkejaaDoor.Tre
open Go.ChangeShapes Go.WideShapes Go.ChangeAt Go.RowKit Kit in
theorem laid_ok {W : World} (h : laidMetH Tryd.prog [("tabularium/utf.kinds", Rows.laid_tabularium_utf_kinds)] W) : Ok W := Utf.laid_of h
end Go.Proofs.YtjekannajnkejaaDoor.Tre
