/- quote.Scan as it landed: an error is thrown from within, and caught where it began. Nothing is claimed here. -/
import Derived.Test.YtehpjidajmoggaaGreatDoorQuoText
import Derived.Recover
import Derived.Laws.Pointers
namespace Go.Proofs.YtehpjidajmoggaaGreatDoor.Quo
open Go.RowKit Kit Txt Utf Bld

theorem run_assert (v : Value) (w : World) : (Instr.typeAssert (.iface 29 v) 20 29 false).run Tryz.prog w = .ok v w := by
  simp [Instr.typeAssert, run_underlying Tryz.underlying29]
set_option maxRecDepth 100000 in
theorem caught {E : Nat} {k : Nat} {older : List PanicEntry} {x : Int} {w : World} (h : w.heap[E]? = some (.cells #[.int .i64 x] 29 (0, 0))) :
    CallsD Tryz.prog 53 #[.pointer (some ⟨E, 0, none⟩)] (.panicking ({ v := .iface 29 (.int .i64 k), recovered := false } :: older)) w fun e u' w' =>
      e = .returned (.tuple #[]) ∧ u' = .panicking ({ v := .iface 29 (.int .i64 k), recovered := true } :: older) ∧ w' = w.setCell ⟨E, 0, none⟩ (.int .i64 k) := by
  have hc := cell_of h 0
  have hf := free_of h 0
  refine callsD_of_wpS Tryz.func53 rfl fun c₀ cs hu => ?_
  apply wpS_seq
  apply wpS_region
  simp [wpOpsS, go_sem, recoverD, hu, Tryz.ntmps53, Exit.thenS]
  apply wpS_seq
  apply wpS_region
  simp [wpOpsS, go_sem, Exit.thenS]
  refine wpS_cond (t := true) (by simp [Act.eval, Array.replicate]) ?_
  simp only [if_true]
  apply wpS_region
  simp [wpOpsS, go_sem, run_assert, hc, hf, bodyPostS, results, Tryz.results53]
theorem idle {E : Nat} {w : World} :
    CallsD Tryz.prog 53 #[.pointer (some ⟨E, 0, none⟩)] .returning w fun e u' w' => e = .returned (.tuple #[]) ∧ u' = .returning ∧ w' = w := by
  refine callsD_of_wpS Tryz.func53 rfl fun c₀ cs hu => ?_
  apply wpS_seq
  apply wpS_region
  simp [wpOpsS, go_sem, recoverD, hu, Tryz.ntmps53, Exit.thenS]
  apply wpS_seq
  apply wpS_region
  simp [wpOpsS, go_sem, Exit.thenS]
  refine wpS_cond (t := false) (by simp [Act.eval, Array.replicate]) ?_
  simp only [Bool.false_eq_true, if_false]
  refine wpS_of_wp (wp_skip ?_)
  cases c₀
  simp_all [bodyPostS, results, Tryz.results53]
set_option maxRecDepth 100000 in
set_option maxHeartbeats 2000000 in
theorem qscan_laid {w : World} {l : List UInt8} (hl : l.length < 100000) (hT : Laid w) :
    Calls Tryz.prog 39 #[.string (txt l)] w fun e w' => e = .returned (.tuple #[.string (txt (scan l).s), .int .i64 ((scan l).size : Int), .int .i64 ((scan l).e : Int)]) ∧ Below w.heap.size w w' := by
  have hmf : ∀ (fn : Fn) (first cap : Array Value) (w : World), (Instr.makeFunc fn first cap).run Tryz.prog w = .ok (.func fn first cap) w := fun _ _ _ _ => rfl
  have h1 : Rdr (w.heap.size + 1) l ((w.alloc (.cells #[.int .i64 0] 29)).alloc (.cells #[.string (txt l)] 80)) := by
    have := World.alloc_heap_new (w.alloc (.cells #[.int .i64 0] 29)) (.cells #[.string (txt l)] 80)
    rwa [World.size_alloc] at this
  have hE : ((w.alloc (.cells #[.int .i64 0] 29)).alloc (.cells #[.string (txt l)] 80)).heap[w.heap.size]? = some (.cells #[.int .i64 0] 29 (0, 0)) := new_of (World.alloc_heap_new w _) _
  have hB : Below w.heap.size w ((w.alloc (.cells #[.int .i64 0] 29)).alloc (.cells #[.string (txt l)] 80)) := ((Below.refl _ w).alloc (Nat.le_refl _) _).alloc (by simp) _
  have hT1 : Laid ((w.alloc (.cells #[.int .i64 0] 29)).alloc (.cells #[.string (txt l)] 80)) := hT.below hB hT.lt
  have ht := mtext_any hl hT1 (by have := hT.lt; omega) h1
  unfold rp at ht
  unfold Text at ht
  have hs := txt_size l
  have hmo : Tryz.prog.follows .mixedOrders = true := by kernel_rfl
  have hno := fun (h : (scan l).e ≠ 0) => scan_err_nil h
  generalize scan l = p at *
  go_enter_defers Tryz.func39, Tryz.ntmps39
  go_wp2_with fail
  refine ht.mono ?_
  rintro e w1 ⟨k1, (⟨hz, rfl, rest, hR, hlen⟩ | ⟨hz, rfl⟩)⟩
  · have hE1 : w1.heap[w.heap.size]? = some (.cells #[.int .i64 0] 29 (0, 0)) := (k1.block _ (lt_of_heap hE) (by simp)).trans hE
    have hcR := cell_of hR 0
    have hcE := cell_of hE1 0
    have hfE := free_of hE1 0
    have hsr := txt_size rest
    have wz : IntKind.i64.wrap ((l.length : Int) - (rest.length : Int)) = (p.size : Int) := by simp only [IntKind.wrap, IntKind.signed, IntKind.bits]; simp; omega
    have ht0 : (⟨#[]⟩ : ByteArray) = txt [] := rfl
    clear hno ht h1 hT1
    go_wp2_with fail
    go_region
    all_goals
      go_wp2_with fail
      refine leaves_cons (f := 53) (args := #[.pointer (some ⟨w.heap.size, 0, none⟩)]) (by simp) (by simp [go_sem]) ?_
      refine idle.mono ?_
      rintro e u' w'' ⟨rfl, rfl, rfl⟩
      refine ⟨.tuple #[.string (txt p.s), .int .i64 (p.size : Int), .int .i64 0], by simp [results, Tryz.results39, go_sem, hcE], ?_⟩
      rw [hz]
      exact ⟨rfl, below_drewN ((Below.trans hB ⟨k1.os, k1.tape, k1.output, Nat.le_trans (by have := hB.size; omega) k1.size, fun k hk => k1.block k (by have := hB.size; omega) (fun e => by cases e; omega)⟩).setCell (p := ⟨w.heap.size, 0, none⟩) (Nat.le_refl _) _) 1⟩
  · have hE1 : w1.heap[w.heap.size]? = some (.cells #[.int .i64 0] 29 (0, 0)) := (k1.block _ (lt_of_heap hE) (by simp)).trans hE
    have hp := hno hz
    obtain ⟨ps, pz, pe⟩ := p
    injection hp with e1 e2
    subst e1; subst e2
    clear hno
    dsimp only at *
    refine leaves_cons (f := 53) (args := #[.pointer (some ⟨w.heap.size, 0, none⟩)]) (by simp) (by simp [go_sem]) ?_
    refine (caught hE1).mono ?_
    rintro e u' w'' ⟨rfl, rfl, rfl⟩
    have hE2 := cell_of (set_of hE1 0 (.int .i64 (pe : Int))) 0
    have hbz : Below w.heap.size w (w1.setCell ⟨w.heap.size, 0, none⟩ (.int .i64 (pe : Int))) := (Below.trans hB ⟨k1.os, k1.tape, k1.output, Nat.le_trans (by have := hB.size; omega) k1.size, fun k hk => k1.block k (by have := hB.size; omega) (fun e => by cases e; omega)⟩).setCell (p := ⟨w.heap.size, 0, none⟩) (Nat.le_refl _) _
    have ht0 : (⟨#[]⟩ : ByteArray) = txt [] := rfl
    refine ⟨.tuple #[.string (txt []), .int .i64 0, .int .i64 (pe : Int)], by simp [results, Tryz.results39, go_sem, hE2, ht0], rfl, hbz⟩
end Go.Proofs.YtehpjidajmoggaaGreatDoor.Quo
