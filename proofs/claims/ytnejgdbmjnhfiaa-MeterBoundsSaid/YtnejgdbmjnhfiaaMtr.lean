/- Contracts of package meter's functions for one goroutine, in the model's memory: what each call answers and which blocks it may have changed. Nothing is claimed here. -/
import Derived.Test.YtnejgdbmjnhfiaaKit
import Derived.WalkSpells
import Derived.WalkLawsBesides
import Derived.Deep.QuietTactic
import Derived.BigQuiet
import Derived.Lib.Hide
namespace Go.Proofs.Ytnejgdbmjnhfiaa.Mtr
open Go.RowKit

/-- The meter at block bp tells limit lim; its tally lies at block bt. -/
structure Mt (w : World) (bp bt : Nat) (lim u pk rf : Int) : Prop where
  mh : w.heap[bp]? = some (.cells #[.int .i64 lim, .pointer (some ⟨bt, 0, none⟩)] 46 (0, 0))
  th : w.heap[bt]? = some (.cells #[.int .i64 u, .int .i64 pk, .int .i64 rf] 49 (0, 0))

section
variable {w : World} {bp bt : Nat} {lim u pk rf : Int}
theorem cell_of {w : World} {b : Nat} {c : Array Value} {t : TypeId} {fr : Nat × Nat} (h : w.heap[b]? = some (.cells c t fr)) (i : Nat) : w.cell? ⟨b, i, none⟩ = c[i]? := by simp [World.cell?, h]
theorem free_of {w : World} {b : Nat} {c : Array Value} {t : TypeId} (h : w.heap[b]? = some (.cells c t (0, 0))) (i : Nat) : w.frozen? ⟨b, i, none⟩ = false := by simp [World.frozen?, h]
theorem shape_of {w : World} {b : Nat} {c : Array Value} {t : TypeId} {fr : Nat × Nat} (h : w.heap[b]? = some (.cells c t fr)) : w.shape? b = some (t, c.size) := by simp [World.shape?, h]
theorem lt_of_heap {w : World} {b : Nat} {o : Obj} (h : w.heap[b]? = some o) : b < w.heap.size := (Array.getElem?_eq_some_iff.1 h).1
end

/-- 'unsafe.Pointer(p)' of a pointer to a tally: the same address. -/
theorem conv_to {w : World} {b : Nat} {v : Value} (hc : w.cell? ⟨b, 0, none⟩ = some v) : (convert 38 42 (.pointer (some ⟨b, 0, none⟩))).run Try.prog w = .ok (.pointer (some ⟨b, 0, none⟩)) w :=
  run_convert_to_unsafe Try.underlying38 Try.underlying42 (by kernel_rfl) hc

theorem lies49 : liesAt Try.prog Try.prog.depth 49 (3 / Try.prog.cellsOf 49) 0 49 1 = true := by kernel_rfl
theorem size49 : (Try.prog.info? 49).map (fun i => i.size) = some 3 := by kernel_rfl

/-- '(*tally)(q)' of an address at which a tally lies: the same address. -/
theorem conv_from {w : World} {b : Nat} {c : Array Value} {fr : Nat × Nat} (h : w.heap[b]? = some (.cells c 49 fr)) (hs : c.size = 3) :
    (convert 42 38 (.pointer (some ⟨b, 0, none⟩))).run Try.prog w = .ok (.pointer (some ⟨b, 0, none⟩)) w := by
  have hsh := shape_of h
  rw [hs] at hsh
  obtain ⟨i, hi, hi3⟩ := Option.map_eq_some_iff.1 size49
  have hv : (variablesAt ⟨b, 0, none⟩ 49 1).run Try.prog w = .ok true w := by
    simp [variablesAt, hsh, lies49, Result.andThen]
  simp [convert, Conv.unsafePointer, Conv.seenAt, viewAt, run_underlying Try.underlying38, run_underlying Try.underlying42, sizeOf, typeInfo, hi, hi3, hsh, hv, Result.andThen]

/-- sync/atomic.LoadPointer where the cell holds a pointer. -/
theorem load_ptr {w : World} {a : Addr} {x : Option Addr} (hc : w.cell? a = some (.pointer x)) : (callFunc 29 #[.pointer (some a)]).run Try.prog w = .ok (.value (.pointer x)) w := by
  rw [run_callFunc_extern (e := Extern.Atomic.loadT .ptr) Try.func29 (by kernel_rfl) (by kernel_rfl) (by kernel_rfl) (by kernel_rfl)]
  change (Sem.run Try.prog (do Extern.Atomic.read .ptr (← asAddr (.pointer (some a)))) w).andThen _ = _
  simp [Extern.Atomic.read, asAddr, hc, Result.andThen]

/-- sync/atomic.StorePointer. -/
theorem store_ptr {w : World} {a : Addr} {u : Value} {x : Option Addr} (hc : w.cell? a = some u) (hz : w.frozen? a = false) :
    (callFunc 26 #[.pointer (some a), .pointer x]).run Try.prog w = .ok (.value (.tuple #[])) (w.setCell a (.pointer x)) := by
  rw [run_callFunc_extern (e := Extern.Atomic.storeT) Try.func26 (by kernel_rfl) (by kernel_rfl) (by kernel_rfl) (by kernel_rfl)]
  change (Sem.run Try.prog (do
    store (← asAddr (.pointer (some a))) (.pointer x) .atomic
    pure Extern.Atomic.none_) w).andThen _ = _
  simp [asAddr, hc, hz, run_store Try.prog w a (.pointer x) .atomic rfl, Result.andThen, Extern.Atomic.none_]

/-- sync/atomic.CompareAndSwapPointer where the cell holds the very pointer that is asked for. -/
theorem cas_ptr {w : World} {a x : Addr} {y : Option Addr} (hc : w.cell? a = some (.pointer (some x))) (hz : w.frozen? a = false) :
    (callFunc 30 #[.pointer (some a), .pointer (some x), .pointer y]).run Try.prog w = .ok (.value (.bool true)) (w.setCell a (.pointer y)) := by
  rw [run_callFunc_extern (e := Extern.Atomic.casT .ptr) Try.func30 (by kernel_rfl) (by kernel_rfl) (by kernel_rfl) (by kernel_rfl)]
  change (Sem.run Try.prog (do
    let a' ← asAddr (.pointer (some a))
    if ← Extern.Atomic.touchesFrozen a' then unsupported (.unsafePointer "a write to bytes that a string shares")
    let eq ← match Extern.Atomic.T.ptr, ← Extern.Atomic.read .ptr a', Value.pointer (some x) with
      | _, .int _ x, .int _ y => pure (x == y)
      | .ptr, .pointer x, .pointer y => samePointer x y
      | .int _, .pointer (some _), .int _ 0 | .int _, .int _ 0, .pointer (some _) => pure false
      | .int _, .pointer (some _), _ | .int _, _, .pointer (some _) => unsupported .addressObserved
      | _, _, _ => stuck "atomic.CompareAndSwap: old is no T"
    if eq then store a' (.pointer y) .atomic
    pure (Value.bool eq)) w).andThen _ = _
  simp [Extern.Atomic.touchesFrozen, Extern.Atomic.read, asAddr, viewAt, samePointer, sameAddr, World.shape?_isSome_of_cell? hc, hc, hz, run_store Try.prog w a (.pointer y) .atomic rfl, Result.andThen]

/-- (*atomic.Pointer).Load. -/
theorem load_any {w : World} {bp bt : Nat} {lim u pk rf : Int} (h : Mt w bp bt lim u pk rf) :
    Calls Try.prog 25 #[.pointer (some ⟨bp, 1, none⟩)] w fun e w' => e = .returned (.pointer (some ⟨bt, 0, none⟩)) ∧ w = w' := by
  have c1 : w.cell? ⟨bp, 1, none⟩ = some (.pointer (some ⟨bt, 0, none⟩)) := cell_of h.mh 1
  have hl := load_ptr c1
  have hv := conv_from h.th rfl
  go_enter Try.func25, Try.ntmps25
  go_wp2
  go_ret
  exact ⟨rfl, rfl⟩

/-- (*atomic.Pointer).CompareAndSwap of the pointer that is there: the new one is stored. -/
theorem cas_any {w : World} {bp bt bn : Nat} {v : Value} (c1 : w.cell? ⟨bp, 1, none⟩ = some (.pointer (some ⟨bt, 0, none⟩))) (z1 : w.frozen? ⟨bp, 1, none⟩ = false) (ct : w.cell? ⟨bt, 0, none⟩ = some v) {v' : Value} (cn : w.cell? ⟨bn, 0, none⟩ = some v') :
    Calls Try.prog 27 #[.pointer (some ⟨bp, 1, none⟩), .pointer (some ⟨bt, 0, none⟩), .pointer (some ⟨bn, 0, none⟩)] w fun e w' => e = .returned (.bool true) ∧ w.setCell ⟨bp, 1, none⟩ (.pointer (some ⟨bn, 0, none⟩)) = w' := by
  have h0 := cas_ptr (y := some ⟨bn, 0, none⟩) c1 z1
  have ho := conv_to ct
  have hn := conv_to cn
  go_enter Try.func27, Try.ntmps27
  go_wp2
  go_ret
  exact ⟨rfl, rfl⟩

/-- (*atomic.Pointer).Store. -/
theorem store_any {w : World} {bp bn : Nat} {u v : Value} (c1 : w.cell? ⟨bp, 1, none⟩ = some u) (z1 : w.frozen? ⟨bp, 1, none⟩ = false) (cn : w.cell? ⟨bn, 0, none⟩ = some v) :
    Calls Try.prog 19 #[.pointer (some ⟨bp, 1, none⟩), .pointer (some ⟨bn, 0, none⟩)] w fun e w' => e = .returned (.tuple #[]) ∧ w.setCell ⟨bp, 1, none⟩ (.pointer (some ⟨bn, 0, none⟩)) = w' := by
  have h0 := store_ptr (x := some ⟨bn, 0, none⟩) c1 z1
  have hn := conv_to cn
  go_enter Try.func19, Try.ntmps19
  go_wp2
  go_end0
  exact ⟨rfl, rfl⟩
end Go.Proofs.Ytnejgdbmjnhfiaa.Mtr
