/- A part of what lines_holds leans on (its texts, put together). Nothing is claimed here. -/
import Derived.Lib.Hide
import Derived.Deep.OwnRows
import Derived.Laws.Cover3
import Derived.Test.YtlfbnfphocpgeaaGreatDoorShelf
import Derived.Shelf.SlSortCmp.WholeK
import Derived.Deep.RegionHeld3
import Derived.Test.YtlfbnfphocpgeaaGreatDoorLn3
namespace Go.Proofs.YtlfbnfphocpgeaaGreatDoor.Jenc
open Go.RowKit Kit Txt
open Tre (Val Whole)
open Emb (Turn Emb)
theorem lies_narrow : Emb.Lies 64 2 := ⟨by kernel_rfl, by decide⟩
theorem lies_wide : Emb.Lies 72 4 := ⟨by kernel_rfl, by decide⟩
theorem flatten_len {ps : List (List UInt8)} (h : ∀ m ∈ ps, m.length ≤ 100000) : ps.flatten.length ≤ 100000 * ps.length := by
  induction ps with
  | nil => exact Nat.zero_le _
  | cons p r ih =>
    have h1 := h p (by simp)
    have h2 := ih fun m hm => h m (List.mem_cons_of_mem _ hm)
    rw [List.flatten_cons, List.length_append, List.length_cons]
    omega
/-- The narrow printer in block P. -/
def NSt (P B : Nat) (ps : List (List UInt8)) (w : World) : Prop := Emb 64 B P ps.flatten [] w ∧ ∀ m ∈ ps, m.length ≤ 100000
set_option maxRecDepth 100000 in
set_option maxHeartbeats 1000000 in
theorem narrow_printer (P B : Nat) : Printer 66 228 P B (fun _ => True) (NSt P B) where
  ahead := fun w => by kernel_rfl
  meth := fun w => by kernel_rfl
  call := fun m w => rfl
  step := fun ps m w hs hm hl _ => by
    obtain ⟨he, hb⟩ := hs
    have hfl := flatten_len hb
    have hst := Emb.str_any (T := 64) (rest := []) lies_narrow he (m := m) (by omega)
    have HST := Lib.hid hst
    have HB := Lib.hid hb
    clear hst hb he hfl
    go_enter Tryz.func228, Tryz.ntmps228
    go_wp2_with fail
    refine HST.out.mono ?_
    rintro e w2 ⟨rfl, h2, t2⟩
    go_wp2_with fail
    go_end0
    refine ⟨rfl, ⟨?_, fun x hx => ?_⟩, t2⟩
    · rw [List.flatten_append]
      exact .inr (by simpa using h2)
    · rcases List.mem_append.1 hx with hx | hx
      · exact HB.out x hx
      · rw [List.mem_singleton.1 hx]
        exact hm
  pre := fun _ _ _ => trivial
  keep := fun ps w w' h k => ⟨h.1.kept k, h.2⟩
  low := fun ps w h => ⟨h.1.lt.1, h.1.lt.2.1, h.1.lt.2.2⟩
theorem gap_brk {o l p : List UInt8} {dp d2 : Int} (h1 : opens l ≠ shuts p ∨ l = [44]) (h2 : (if opens l then dp + 1 else dp) - (if shuts p then 1 else 0) = d2) : wstep ⟨o, dp, l⟩ p = ⟨(o ++ brkI d2) ++ p, d2, p⟩ := by
  subst h2
  unfold wstep wgap wdeep
  dsimp only
  rw [if_pos h1]
  simp
theorem gap_blank {o l p : List UInt8} {dp : Int} (h1 : opens l = false) (h2 : shuts p = false) (h3 : l = [58]) : wstep ⟨o, dp, l⟩ p = ⟨(o ++ [32]) ++ p, dp, p⟩ := by
  have h4 : l ≠ [44] := by rw [h3]; decide
  unfold wstep wgap wdeep
  dsimp only
  rw [h1, h2, if_neg (by simp [h4]), if_pos h3]
  simp
theorem gap_none {o l p : List UInt8} {dp : Int} (h1 : opens l = shuts p) (h2 : l ≠ [44]) (h3 : l ≠ [58]) : wstep ⟨o, dp, l⟩ p = ⟨o ++ p, dp, p⟩ := by
  unfold wstep wgap wdeep
  dsimp only
  rw [if_neg (by simp [h1, h2]), if_neg h3, h1]
  cases shuts p <;> simp
/-- The wide printer in block P, its state. -/
def WAt (P B : Nat) (s : WS) (w : World) : Prop := Emb 72 B P s.out [.int .i64 s.deep, .string (txt s.last)] w
set_option maxRecDepth 100000 in
set_option maxHeartbeats 2000000 in
theorem wwrite_o1s1 {P B : Nat} {o la p : List UInt8} {dp : Int} {w : World} (hs : WAt P B ⟨o, dp, la⟩ w) (ho : o.length ≤ 100000000000) (hpl : p.length ≤ 100000) (_hd0 : -1 ≤ dp) (_hd1 : dp ≤ 100000) (_hw0 : 0 ≤ wdeep ⟨o, dp, la⟩ p) (_hw1 : wdeep ⟨o, dp, la⟩ p ≤ 100000) (hla : la = [91]) (hp : p = [93]) :
    Calls Tryz.prog 229 #[.pointer (some ⟨P, 0, none⟩), .string (txt p)] w fun e w' => e = .returned (.tuple #[]) ∧ WAt P B (wstep ⟨o, dp, la⟩ p) w' ∧ Turn B P w w' := by
  have t91 : (⟨#[91]⟩ : ByteArray) = txt [91] := rfl
  have t123 : (⟨#[123]⟩ : ByteArray) = txt [123] := rfl
  have t93 : (⟨#[93]⟩ : ByteArray) = txt [93] := rfl
  have t125 : (⟨#[125]⟩ : ByteArray) = txt [125] := rfl
  have t44 : (⟨#[44]⟩ : ByteArray) = txt [44] := rfl
  have t58 : (⟨#[58]⟩ : ByteArray) = txt [58] := rfl
  have hel := hs.lt
  have hPl := hel.2.2
  have f2 := hs.free 2
  have f3 := hs.free 3
  have e2 : w.cell? ⟨P, 2, none⟩ = some (.int .i64 dp) := hs.cell (i := 0)
  have e3 : w.cell? ⟨P, 3, none⟩ = some (.string (txt la)) := hs.cell (i := 1)
  have hla91 : la = [91] := hla
  have hla123 : la ≠ [123] := by rw [hla]; decide
  have hla44 : la ≠ [44] := by rw [hla]; decide
  have hla58 : la ≠ [58] := by rw [hla]; decide
  have hp93 : p = [93] := hp
  have hp125 : p ≠ [125] := by rw [hp]; decide
  have qla91 : ((txt la).toList == (txt [91]).toList) = true := by rw [hla91]; simp
  have qla123 : ((txt la).toList == (txt [123]).toList) = false := txt_ne hla123
  have qla44 : ((txt la).toList == (txt [44]).toList) = false := txt_ne hla44
  have qla58 : ((txt la).toList == (txt [58]).toList) = false := txt_ne hla58
  have qp93 : ((txt p).toList == (txt [93]).toList) = true := by rw [hp93]; simp
  have qp125 : ((txt p).toList == (txt [125]).toList) = false := txt_ne hp125
  have hop : opens la = true := by simp [opens, hla91]
  have hsh : shuts p = true := by simp [shuts, hp93]
  have hwd : wdeep ⟨o, dp, la⟩ p = dp := by simp [wdeep, hop, hsh]
  rw [hwd] at _hw0 _hw1
  have wr1 : IntKind.i64.wrap (dp + 1) = dp + 1 := by simp only [IntKind.wrap, IntKind.signed, IntKind.bits]; simp; omega
  have wr2 : IntKind.i64.wrap (dp) = dp := by simp only [IntKind.wrap, IntKind.signed, IntKind.bits]; simp; omega
  have hstep : wstep ⟨o, dp, la⟩ p = ⟨o ++ p, dp, p⟩ := gap_none (by rw [hop, hsh]) hla44 hla58
  have HSTEP := Lib.hid hstep
  have HEM := Lib.hid hs
  have HL := Lib.hid hel
  clear hs hel hop hsh hwd hstep hla91 hla123 hla44 hla58 hp93 hp125 hla hp
  have hE1 : Emb 72 B P o [.int .i64 (dp), .string (txt la)] ((w.setCell ⟨P, 2, none⟩ (.int .i64 (dp + 1))).setCell ⟨P, 2, none⟩ (.int .i64 (dp))) := ((HEM.out).rest (i := 0) (x := .int .i64 (dp + 1))).rest (i := 0) (x := .int .i64 (dp))
  have hT1 : Turn B P w ((w.setCell ⟨P, 2, none⟩ (.int .i64 (dp + 1))).setCell ⟨P, 2, none⟩ (.int .i64 (dp))) := ((Turn.refl B P w).set HL.out.1 2 (.int .i64 (dp + 1))).set HL.out.1 2 (.int .i64 (dp))
  obtain ⟨W1, hW1⟩ : ∃ W1, ((w.setCell ⟨P, 2, none⟩ (.int .i64 (dp + 1))).setCell ⟨P, 2, none⟩ (.int .i64 (dp))) = W1 := ⟨_, rfl⟩
  rw [hW1] at hE1 hT1
  have HW1 := Lib.hid hW1
  clear hW1
  have HE1 := Lib.hid hE1
  have HT1 := Lib.hid hT1
  clear hE1 hT1
  go_enter Tryz.func229, Tryz.ntmps229
  go_wp2_with fail
  rw [HW1.out]
  refine (Emb.str_any (rest := [.int .i64 (dp), .string (txt la)]) lies_wide HE1.out (m := p) (by omega)).mono ?_
  rintro e w6 ⟨rfl, h6, t6⟩
  have h6f := (Emb.free (.inr h6) 3 : w6.frozen? ⟨P, 3, none⟩ = false)
  have h6c : w6.cell? ⟨P, 3, none⟩ = some (.string (txt la)) := Emb.cell (.inr h6) (i := 1)
  have h6l := h6.lt
  have H6 := Lib.hid h6
  have T6 := Lib.hid t6
  clear h6 t6
  go_wp2_with fail
  go_end0
  refine ⟨rfl, ?_, (HT1.out.trans T6.out).set HL.out.1 3 _⟩
  rw [HSTEP.out]
  exact Emb.rest (i := 1) (x := .string (txt p)) (.inr H6.out)
set_option maxRecDepth 100000 in
set_option maxHeartbeats 2000000 in
theorem wwrite_o1s2 {P B : Nat} {o la p : List UInt8} {dp : Int} {w : World} (hs : WAt P B ⟨o, dp, la⟩ w) (ho : o.length ≤ 100000000000) (hpl : p.length ≤ 100000) (_hd0 : -1 ≤ dp) (_hd1 : dp ≤ 100000) (_hw0 : 0 ≤ wdeep ⟨o, dp, la⟩ p) (_hw1 : wdeep ⟨o, dp, la⟩ p ≤ 100000) (hla : la = [91]) (hp : p = [125]) :
    Calls Tryz.prog 229 #[.pointer (some ⟨P, 0, none⟩), .string (txt p)] w fun e w' => e = .returned (.tuple #[]) ∧ WAt P B (wstep ⟨o, dp, la⟩ p) w' ∧ Turn B P w w' := by
  have t91 : (⟨#[91]⟩ : ByteArray) = txt [91] := rfl
  have t123 : (⟨#[123]⟩ : ByteArray) = txt [123] := rfl
  have t93 : (⟨#[93]⟩ : ByteArray) = txt [93] := rfl
  have t125 : (⟨#[125]⟩ : ByteArray) = txt [125] := rfl
  have t44 : (⟨#[44]⟩ : ByteArray) = txt [44] := rfl
  have t58 : (⟨#[58]⟩ : ByteArray) = txt [58] := rfl
  have hel := hs.lt
  have hPl := hel.2.2
  have f2 := hs.free 2
  have f3 := hs.free 3
  have e2 : w.cell? ⟨P, 2, none⟩ = some (.int .i64 dp) := hs.cell (i := 0)
  have e3 : w.cell? ⟨P, 3, none⟩ = some (.string (txt la)) := hs.cell (i := 1)
  have hla91 : la = [91] := hla
  have hla123 : la ≠ [123] := by rw [hla]; decide
  have hla44 : la ≠ [44] := by rw [hla]; decide
  have hla58 : la ≠ [58] := by rw [hla]; decide
  have hp93 : p ≠ [93] := by rw [hp]; decide
  have hp125 : p = [125] := hp
  have qla91 : ((txt la).toList == (txt [91]).toList) = true := by rw [hla91]; simp
  have qla123 : ((txt la).toList == (txt [123]).toList) = false := txt_ne hla123
  have qla44 : ((txt la).toList == (txt [44]).toList) = false := txt_ne hla44
  have qla58 : ((txt la).toList == (txt [58]).toList) = false := txt_ne hla58
  have qp93 : ((txt p).toList == (txt [93]).toList) = false := txt_ne hp93
  have qp125 : ((txt p).toList == (txt [125]).toList) = true := by rw [hp125]; simp
  have hop : opens la = true := by simp [opens, hla91]
  have hsh : shuts p = true := by simp [shuts, hp125]
  have hwd : wdeep ⟨o, dp, la⟩ p = dp := by simp [wdeep, hop, hsh]
  rw [hwd] at _hw0 _hw1
  have wr1 : IntKind.i64.wrap (dp + 1) = dp + 1 := by simp only [IntKind.wrap, IntKind.signed, IntKind.bits]; simp; omega
  have wr2 : IntKind.i64.wrap (dp) = dp := by simp only [IntKind.wrap, IntKind.signed, IntKind.bits]; simp; omega
  have hstep : wstep ⟨o, dp, la⟩ p = ⟨o ++ p, dp, p⟩ := gap_none (by rw [hop, hsh]) hla44 hla58
  have HSTEP := Lib.hid hstep
  have HEM := Lib.hid hs
  have HL := Lib.hid hel
  clear hs hel hop hsh hwd hstep hla91 hla123 hla44 hla58 hp93 hp125 hla hp
  have hE1 : Emb 72 B P o [.int .i64 (dp), .string (txt la)] ((w.setCell ⟨P, 2, none⟩ (.int .i64 (dp + 1))).setCell ⟨P, 2, none⟩ (.int .i64 (dp))) := ((HEM.out).rest (i := 0) (x := .int .i64 (dp + 1))).rest (i := 0) (x := .int .i64 (dp))
  have hT1 : Turn B P w ((w.setCell ⟨P, 2, none⟩ (.int .i64 (dp + 1))).setCell ⟨P, 2, none⟩ (.int .i64 (dp))) := ((Turn.refl B P w).set HL.out.1 2 (.int .i64 (dp + 1))).set HL.out.1 2 (.int .i64 (dp))
  obtain ⟨W1, hW1⟩ : ∃ W1, ((w.setCell ⟨P, 2, none⟩ (.int .i64 (dp + 1))).setCell ⟨P, 2, none⟩ (.int .i64 (dp))) = W1 := ⟨_, rfl⟩
  rw [hW1] at hE1 hT1
  have HW1 := Lib.hid hW1
  clear hW1
  have HE1 := Lib.hid hE1
  have HT1 := Lib.hid hT1
  clear hE1 hT1
  go_enter Tryz.func229, Tryz.ntmps229
  go_wp2_with fail
  rw [HW1.out]
  refine (Emb.str_any (rest := [.int .i64 (dp), .string (txt la)]) lies_wide HE1.out (m := p) (by omega)).mono ?_
  rintro e w6 ⟨rfl, h6, t6⟩
  have h6f := (Emb.free (.inr h6) 3 : w6.frozen? ⟨P, 3, none⟩ = false)
  have h6c : w6.cell? ⟨P, 3, none⟩ = some (.string (txt la)) := Emb.cell (.inr h6) (i := 1)
  have h6l := h6.lt
  have H6 := Lib.hid h6
  have T6 := Lib.hid t6
  clear h6 t6
  go_wp2_with fail
  go_end0
  refine ⟨rfl, ?_, (HT1.out.trans T6.out).set HL.out.1 3 _⟩
  rw [HSTEP.out]
  exact Emb.rest (i := 1) (x := .string (txt p)) (.inr H6.out)
set_option maxRecDepth 100000 in
set_option maxHeartbeats 2000000 in
theorem wwrite_o1y {P B : Nat} {o la p : List UInt8} {dp : Int} {w : World} (hs : WAt P B ⟨o, dp, la⟩ w) (ho : o.length ≤ 100000000000) (hpl : p.length ≤ 100000) (_hd0 : -1 ≤ dp) (_hd1 : dp ≤ 100000) (_hw0 : 0 ≤ wdeep ⟨o, dp, la⟩ p) (_hw1 : wdeep ⟨o, dp, la⟩ p ≤ 100000) (hla : la = [91]) (hp93 : p ≠ [93]) (hp125 : p ≠ [125]) :
    Calls Tryz.prog 229 #[.pointer (some ⟨P, 0, none⟩), .string (txt p)] w fun e w' => e = .returned (.tuple #[]) ∧ WAt P B (wstep ⟨o, dp, la⟩ p) w' ∧ Turn B P w w' := by
  have t91 : (⟨#[91]⟩ : ByteArray) = txt [91] := rfl
  have t123 : (⟨#[123]⟩ : ByteArray) = txt [123] := rfl
  have t93 : (⟨#[93]⟩ : ByteArray) = txt [93] := rfl
  have t125 : (⟨#[125]⟩ : ByteArray) = txt [125] := rfl
  have t44 : (⟨#[44]⟩ : ByteArray) = txt [44] := rfl
  have t58 : (⟨#[58]⟩ : ByteArray) = txt [58] := rfl
  have hel := hs.lt
  have hPl := hel.2.2
  have f2 := hs.free 2
  have f3 := hs.free 3
  have e2 : w.cell? ⟨P, 2, none⟩ = some (.int .i64 dp) := hs.cell (i := 0)
  have e3 : w.cell? ⟨P, 3, none⟩ = some (.string (txt la)) := hs.cell (i := 1)
  have hla91 : la = [91] := hla
  have hla123 : la ≠ [123] := by rw [hla]; decide
  have hla44 : la ≠ [44] := by rw [hla]; decide
  have hla58 : la ≠ [58] := by rw [hla]; decide
  have qla91 : ((txt la).toList == (txt [91]).toList) = true := by rw [hla91]; simp
  have qla123 : ((txt la).toList == (txt [123]).toList) = false := txt_ne hla123
  have qla44 : ((txt la).toList == (txt [44]).toList) = false := txt_ne hla44
  have qla58 : ((txt la).toList == (txt [58]).toList) = false := txt_ne hla58
  have qp93 : ((txt p).toList == (txt [93]).toList) = false := txt_ne hp93
  have qp125 : ((txt p).toList == (txt [125]).toList) = false := txt_ne hp125
  have hop : opens la = true := by simp [opens, hla91]
  have hsh : shuts p = false := by simp [shuts, hp93, hp125]
  have hwd : wdeep ⟨o, dp, la⟩ p = dp + 1 := by simp [wdeep, hop, hsh]
  rw [hwd] at _hw0 _hw1
  have wr1 : IntKind.i64.wrap (dp + 1) = dp + 1 := by simp only [IntKind.wrap, IntKind.signed, IntKind.bits]; simp; omega
  have hstep : wstep ⟨o, dp, la⟩ p = ⟨(o ++ brkI (dp + 1)) ++ p, dp + 1, p⟩ := gap_brk (by rw [hop, hsh]; exact .inl (by decide)) hwd
  have HSTEP := Lib.hid hstep
  obtain ⟨D, hD⟩ : ∃ D : Nat, (D : Int) = dp + 1 := ⟨(dp + 1).toNat, by omega⟩
  have hbrk : brkI (dp + 1) = [10] ++ (List.replicate D [32, 32]).flatten := by rw [← hD]; rfl
  have hrep : ∀ wx : World, Calls Tryz.prog 110 #[.string ⟨#[32, 32]⟩, .int .i64 (dp + 1)] wx fun e w' => e = .returned (.string (txt (List.replicate D [32, 32]).flatten)) ∧ Below wx.heap.size wx w' := fun wx => by
    rw [← hD, ← repeat_blanks]
    exact Tryz.strings_Repeat ⟨#[32, 32]⟩ D wx (by omega) (by show 2 * D ≤ _; omega)
  have hrl : (List.replicate D [(32 : UInt8), 32]).flatten.length = D * 2 := by simp [List.length_flatten]
  have hadd := add_lit (a := [10]) (b := (List.replicate D [(32 : UInt8), 32]).flatten) (s := txt (List.replicate D [(32 : UInt8), 32]).flatten) (c := brkI (dp + 1)) rfl hbrk.symm (by simp) (by omega)
  have hgl : (brkI (dp + 1)).length ≤ 200001 := by rw [hbrk, List.length_append, hrl]; simp; omega
  have ha1 := hadd.1
  have ha2 := hadd.2
  have t10 : (⟨#[10]⟩ : ByteArray) = txt [10] := rfl
  have HREP := Lib.hid hrep
  have HGL := Lib.hid hgl
  have HEM := Lib.hid hs
  have HL := Lib.hid hel
  clear hs hel hop hsh hwd hstep hbrk hrep hadd hgl hD hla91 hla123 hla44 hla58 hp93 hp125 hla
  have hE1 : Emb 72 B P o [.int .i64 (dp + 1), .string (txt la)] (w.setCell ⟨P, 2, none⟩ (.int .i64 (dp + 1))) := (HEM.out).rest (i := 0) (x := .int .i64 (dp + 1))
  have hT1 : Turn B P w (w.setCell ⟨P, 2, none⟩ (.int .i64 (dp + 1))) := (Turn.refl B P w).set HL.out.1 2 (.int .i64 (dp + 1))
  obtain ⟨W1, hW1⟩ : ∃ W1, (w.setCell ⟨P, 2, none⟩ (.int .i64 (dp + 1))) = W1 := ⟨_, rfl⟩
  rw [hW1] at hE1 hT1
  have HW1 := Lib.hid hW1
  clear hW1
  have HE1 := Lib.hid hE1
  have HT1 := Lib.hid hT1
  clear hE1 hT1
  go_enter Tryz.func229, Tryz.ntmps229
  go_upto_region 8 with fail
  rw [HW1.out]
  have e2' : W1.cell? ⟨P, 2, none⟩ = some (.int .i64 (dp + 1)) := HE1.out.cell (i := 0)
  have e3' : W1.cell? ⟨P, 3, none⟩ = some (.string (txt la)) := HE1.out.cell (i := 1)
  go_region_with (first | (go_at_call 110; refine (HREP.out _).mono ?_; rintro e wq ⟨rfl, kq⟩) | (go_at_call 108; refine (Emb.str_any (rest := [.int .i64 (dp + 1), .string (txt la)]) lies_wide (HE1.out.kept ((Below.refl _ _).drew.trans kq)) (m := brkI (dp + 1)) (by have := HGL.out; omega)).mono ?_; rintro e w5 ⟨rfl, h5, t5⟩))
  all_goals
    have h5c : w5.cell? ⟨P, 3, none⟩ = some (.string (txt la)) := Emb.cell (.inr h5) (i := 1)
    have T5 := Lib.hid ((Turn.of_below ((Below.refl _ _).drew.trans kq) HE1.out.lt.2.1).trans t5)
    have H5 := Lib.hid h5
    clear h5 t5 kq
    go_wp2_with fail
    refine (Emb.str_any (rest := [.int .i64 (dp + 1), .string (txt la)]) lies_wide (.inr H5.out) (m := p) (by have := HGL.out; rw [List.length_append]; omega)).mono ?_
    rintro e w6 ⟨rfl, h6, t6⟩
    have h6f := (Emb.free (.inr h6) 3 : w6.frozen? ⟨P, 3, none⟩ = false)
    have h6c : w6.cell? ⟨P, 3, none⟩ = some (.string (txt la)) := Emb.cell (.inr h6) (i := 1)
    have h6l := h6.lt
    have H6 := Lib.hid h6
    have T6 := Lib.hid t6
    clear h6 t6
    go_wp2_with fail
    go_end0
    refine ⟨rfl, ?_, ((HT1.out.trans T5.out).trans T6.out).set HL.out.1 3 _⟩
    rw [HSTEP.out]
    exact Emb.rest (i := 1) (x := .string (txt p)) (.inr H6.out)
set_option maxRecDepth 100000 in
set_option maxHeartbeats 2000000 in
theorem wwrite_o2s1 {P B : Nat} {o la p : List UInt8} {dp : Int} {w : World} (hs : WAt P B ⟨o, dp, la⟩ w) (ho : o.length ≤ 100000000000) (hpl : p.length ≤ 100000) (_hd0 : -1 ≤ dp) (_hd1 : dp ≤ 100000) (_hw0 : 0 ≤ wdeep ⟨o, dp, la⟩ p) (_hw1 : wdeep ⟨o, dp, la⟩ p ≤ 100000) (hla : la = [123]) (hp : p = [93]) :
    Calls Tryz.prog 229 #[.pointer (some ⟨P, 0, none⟩), .string (txt p)] w fun e w' => e = .returned (.tuple #[]) ∧ WAt P B (wstep ⟨o, dp, la⟩ p) w' ∧ Turn B P w w' := by
  have t91 : (⟨#[91]⟩ : ByteArray) = txt [91] := rfl
  have t123 : (⟨#[123]⟩ : ByteArray) = txt [123] := rfl
  have t93 : (⟨#[93]⟩ : ByteArray) = txt [93] := rfl
  have t125 : (⟨#[125]⟩ : ByteArray) = txt [125] := rfl
  have t44 : (⟨#[44]⟩ : ByteArray) = txt [44] := rfl
  have t58 : (⟨#[58]⟩ : ByteArray) = txt [58] := rfl
  have hel := hs.lt
  have hPl := hel.2.2
  have f2 := hs.free 2
  have f3 := hs.free 3
  have e2 : w.cell? ⟨P, 2, none⟩ = some (.int .i64 dp) := hs.cell (i := 0)
  have e3 : w.cell? ⟨P, 3, none⟩ = some (.string (txt la)) := hs.cell (i := 1)
  have hla91 : la ≠ [91] := by rw [hla]; decide
  have hla123 : la = [123] := hla
  have hla44 : la ≠ [44] := by rw [hla]; decide
  have hla58 : la ≠ [58] := by rw [hla]; decide
  have hp93 : p = [93] := hp
  have hp125 : p ≠ [125] := by rw [hp]; decide
  have qla91 : ((txt la).toList == (txt [91]).toList) = false := txt_ne hla91
  have qla123 : ((txt la).toList == (txt [123]).toList) = true := by rw [hla123]; simp
  have qla44 : ((txt la).toList == (txt [44]).toList) = false := txt_ne hla44
  have qla58 : ((txt la).toList == (txt [58]).toList) = false := txt_ne hla58
  have qp93 : ((txt p).toList == (txt [93]).toList) = true := by rw [hp93]; simp
  have qp125 : ((txt p).toList == (txt [125]).toList) = false := txt_ne hp125
  have hop : opens la = true := by simp [opens, hla123]
  have hsh : shuts p = true := by simp [shuts, hp93]
  have hwd : wdeep ⟨o, dp, la⟩ p = dp := by simp [wdeep, hop, hsh]
  rw [hwd] at _hw0 _hw1
  have wr1 : IntKind.i64.wrap (dp + 1) = dp + 1 := by simp only [IntKind.wrap, IntKind.signed, IntKind.bits]; simp; omega
  have wr2 : IntKind.i64.wrap (dp) = dp := by simp only [IntKind.wrap, IntKind.signed, IntKind.bits]; simp; omega
  have hstep : wstep ⟨o, dp, la⟩ p = ⟨o ++ p, dp, p⟩ := gap_none (by rw [hop, hsh]) hla44 hla58
  have HSTEP := Lib.hid hstep
  have HEM := Lib.hid hs
  have HL := Lib.hid hel
  clear hs hel hop hsh hwd hstep hla91 hla123 hla44 hla58 hp93 hp125 hla hp
  have hE1 : Emb 72 B P o [.int .i64 (dp), .string (txt la)] ((w.setCell ⟨P, 2, none⟩ (.int .i64 (dp + 1))).setCell ⟨P, 2, none⟩ (.int .i64 (dp))) := ((HEM.out).rest (i := 0) (x := .int .i64 (dp + 1))).rest (i := 0) (x := .int .i64 (dp))
  have hT1 : Turn B P w ((w.setCell ⟨P, 2, none⟩ (.int .i64 (dp + 1))).setCell ⟨P, 2, none⟩ (.int .i64 (dp))) := ((Turn.refl B P w).set HL.out.1 2 (.int .i64 (dp + 1))).set HL.out.1 2 (.int .i64 (dp))
  obtain ⟨W1, hW1⟩ : ∃ W1, ((w.setCell ⟨P, 2, none⟩ (.int .i64 (dp + 1))).setCell ⟨P, 2, none⟩ (.int .i64 (dp))) = W1 := ⟨_, rfl⟩
  rw [hW1] at hE1 hT1
  have HW1 := Lib.hid hW1
  clear hW1
  have HE1 := Lib.hid hE1
  have HT1 := Lib.hid hT1
  clear hE1 hT1
  go_enter Tryz.func229, Tryz.ntmps229
  go_wp2_with fail
  rw [HW1.out]
  refine (Emb.str_any (rest := [.int .i64 (dp), .string (txt la)]) lies_wide HE1.out (m := p) (by omega)).mono ?_
  rintro e w6 ⟨rfl, h6, t6⟩
  have h6f := (Emb.free (.inr h6) 3 : w6.frozen? ⟨P, 3, none⟩ = false)
  have h6c : w6.cell? ⟨P, 3, none⟩ = some (.string (txt la)) := Emb.cell (.inr h6) (i := 1)
  have h6l := h6.lt
  have H6 := Lib.hid h6
  have T6 := Lib.hid t6
  clear h6 t6
  go_wp2_with fail
  go_end0
  refine ⟨rfl, ?_, (HT1.out.trans T6.out).set HL.out.1 3 _⟩
  rw [HSTEP.out]
  exact Emb.rest (i := 1) (x := .string (txt p)) (.inr H6.out)
set_option maxRecDepth 100000 in
set_option maxHeartbeats 2000000 in
theorem wwrite_o2s2 {P B : Nat} {o la p : List UInt8} {dp : Int} {w : World} (hs : WAt P B ⟨o, dp, la⟩ w) (ho : o.length ≤ 100000000000) (hpl : p.length ≤ 100000) (_hd0 : -1 ≤ dp) (_hd1 : dp ≤ 100000) (_hw0 : 0 ≤ wdeep ⟨o, dp, la⟩ p) (_hw1 : wdeep ⟨o, dp, la⟩ p ≤ 100000) (hla : la = [123]) (hp : p = [125]) :
    Calls Tryz.prog 229 #[.pointer (some ⟨P, 0, none⟩), .string (txt p)] w fun e w' => e = .returned (.tuple #[]) ∧ WAt P B (wstep ⟨o, dp, la⟩ p) w' ∧ Turn B P w w' := by
  have t91 : (⟨#[91]⟩ : ByteArray) = txt [91] := rfl
  have t123 : (⟨#[123]⟩ : ByteArray) = txt [123] := rfl
  have t93 : (⟨#[93]⟩ : ByteArray) = txt [93] := rfl
  have t125 : (⟨#[125]⟩ : ByteArray) = txt [125] := rfl
  have t44 : (⟨#[44]⟩ : ByteArray) = txt [44] := rfl
  have t58 : (⟨#[58]⟩ : ByteArray) = txt [58] := rfl
  have hel := hs.lt
  have hPl := hel.2.2
  have f2 := hs.free 2
  have f3 := hs.free 3
  have e2 : w.cell? ⟨P, 2, none⟩ = some (.int .i64 dp) := hs.cell (i := 0)
  have e3 : w.cell? ⟨P, 3, none⟩ = some (.string (txt la)) := hs.cell (i := 1)
  have hla91 : la ≠ [91] := by rw [hla]; decide
  have hla123 : la = [123] := hla
  have hla44 : la ≠ [44] := by rw [hla]; decide
  have hla58 : la ≠ [58] := by rw [hla]; decide
  have hp93 : p ≠ [93] := by rw [hp]; decide
  have hp125 : p = [125] := hp
  have qla91 : ((txt la).toList == (txt [91]).toList) = false := txt_ne hla91
  have qla123 : ((txt la).toList == (txt [123]).toList) = true := by rw [hla123]; simp
  have qla44 : ((txt la).toList == (txt [44]).toList) = false := txt_ne hla44
  have qla58 : ((txt la).toList == (txt [58]).toList) = false := txt_ne hla58
  have qp93 : ((txt p).toList == (txt [93]).toList) = false := txt_ne hp93
  have qp125 : ((txt p).toList == (txt [125]).toList) = true := by rw [hp125]; simp
  have hop : opens la = true := by simp [opens, hla123]
  have hsh : shuts p = true := by simp [shuts, hp125]
  have hwd : wdeep ⟨o, dp, la⟩ p = dp := by simp [wdeep, hop, hsh]
  rw [hwd] at _hw0 _hw1
  have wr1 : IntKind.i64.wrap (dp + 1) = dp + 1 := by simp only [IntKind.wrap, IntKind.signed, IntKind.bits]; simp; omega
  have wr2 : IntKind.i64.wrap (dp) = dp := by simp only [IntKind.wrap, IntKind.signed, IntKind.bits]; simp; omega
  have hstep : wstep ⟨o, dp, la⟩ p = ⟨o ++ p, dp, p⟩ := gap_none (by rw [hop, hsh]) hla44 hla58
  have HSTEP := Lib.hid hstep
  have HEM := Lib.hid hs
  have HL := Lib.hid hel
  clear hs hel hop hsh hwd hstep hla91 hla123 hla44 hla58 hp93 hp125 hla hp
  have hE1 : Emb 72 B P o [.int .i64 (dp), .string (txt la)] ((w.setCell ⟨P, 2, none⟩ (.int .i64 (dp + 1))).setCell ⟨P, 2, none⟩ (.int .i64 (dp))) := ((HEM.out).rest (i := 0) (x := .int .i64 (dp + 1))).rest (i := 0) (x := .int .i64 (dp))
  have hT1 : Turn B P w ((w.setCell ⟨P, 2, none⟩ (.int .i64 (dp + 1))).setCell ⟨P, 2, none⟩ (.int .i64 (dp))) := ((Turn.refl B P w).set HL.out.1 2 (.int .i64 (dp + 1))).set HL.out.1 2 (.int .i64 (dp))
  obtain ⟨W1, hW1⟩ : ∃ W1, ((w.setCell ⟨P, 2, none⟩ (.int .i64 (dp + 1))).setCell ⟨P, 2, none⟩ (.int .i64 (dp))) = W1 := ⟨_, rfl⟩
  rw [hW1] at hE1 hT1
  have HW1 := Lib.hid hW1
  clear hW1
  have HE1 := Lib.hid hE1
  have HT1 := Lib.hid hT1
  clear hE1 hT1
  go_enter Tryz.func229, Tryz.ntmps229
  go_wp2_with fail
  rw [HW1.out]
  refine (Emb.str_any (rest := [.int .i64 (dp), .string (txt la)]) lies_wide HE1.out (m := p) (by omega)).mono ?_
  rintro e w6 ⟨rfl, h6, t6⟩
  have h6f := (Emb.free (.inr h6) 3 : w6.frozen? ⟨P, 3, none⟩ = false)
  have h6c : w6.cell? ⟨P, 3, none⟩ = some (.string (txt la)) := Emb.cell (.inr h6) (i := 1)
  have h6l := h6.lt
  have H6 := Lib.hid h6
  have T6 := Lib.hid t6
  clear h6 t6
  go_wp2_with fail
  go_end0
  refine ⟨rfl, ?_, (HT1.out.trans T6.out).set HL.out.1 3 _⟩
  rw [HSTEP.out]
  exact Emb.rest (i := 1) (x := .string (txt p)) (.inr H6.out)
set_option maxRecDepth 100000 in
set_option maxHeartbeats 2000000 in
theorem wwrite_o2y {P B : Nat} {o la p : List UInt8} {dp : Int} {w : World} (hs : WAt P B ⟨o, dp, la⟩ w) (ho : o.length ≤ 100000000000) (hpl : p.length ≤ 100000) (_hd0 : -1 ≤ dp) (_hd1 : dp ≤ 100000) (_hw0 : 0 ≤ wdeep ⟨o, dp, la⟩ p) (_hw1 : wdeep ⟨o, dp, la⟩ p ≤ 100000) (hla : la = [123]) (hp93 : p ≠ [93]) (hp125 : p ≠ [125]) :
    Calls Tryz.prog 229 #[.pointer (some ⟨P, 0, none⟩), .string (txt p)] w fun e w' => e = .returned (.tuple #[]) ∧ WAt P B (wstep ⟨o, dp, la⟩ p) w' ∧ Turn B P w w' := by
  have t91 : (⟨#[91]⟩ : ByteArray) = txt [91] := rfl
  have t123 : (⟨#[123]⟩ : ByteArray) = txt [123] := rfl
  have t93 : (⟨#[93]⟩ : ByteArray) = txt [93] := rfl
  have t125 : (⟨#[125]⟩ : ByteArray) = txt [125] := rfl
  have t44 : (⟨#[44]⟩ : ByteArray) = txt [44] := rfl
  have t58 : (⟨#[58]⟩ : ByteArray) = txt [58] := rfl
  have hel := hs.lt
  have hPl := hel.2.2
  have f2 := hs.free 2
  have f3 := hs.free 3
  have e2 : w.cell? ⟨P, 2, none⟩ = some (.int .i64 dp) := hs.cell (i := 0)
  have e3 : w.cell? ⟨P, 3, none⟩ = some (.string (txt la)) := hs.cell (i := 1)
  have hla91 : la ≠ [91] := by rw [hla]; decide
  have hla123 : la = [123] := hla
  have hla44 : la ≠ [44] := by rw [hla]; decide
  have hla58 : la ≠ [58] := by rw [hla]; decide
  have qla91 : ((txt la).toList == (txt [91]).toList) = false := txt_ne hla91
  have qla123 : ((txt la).toList == (txt [123]).toList) = true := by rw [hla123]; simp
  have qla44 : ((txt la).toList == (txt [44]).toList) = false := txt_ne hla44
  have qla58 : ((txt la).toList == (txt [58]).toList) = false := txt_ne hla58
  have qp93 : ((txt p).toList == (txt [93]).toList) = false := txt_ne hp93
  have qp125 : ((txt p).toList == (txt [125]).toList) = false := txt_ne hp125
  have hop : opens la = true := by simp [opens, hla123]
  have hsh : shuts p = false := by simp [shuts, hp93, hp125]
  have hwd : wdeep ⟨o, dp, la⟩ p = dp + 1 := by simp [wdeep, hop, hsh]
  rw [hwd] at _hw0 _hw1
  have wr1 : IntKind.i64.wrap (dp + 1) = dp + 1 := by simp only [IntKind.wrap, IntKind.signed, IntKind.bits]; simp; omega
  have hstep : wstep ⟨o, dp, la⟩ p = ⟨(o ++ brkI (dp + 1)) ++ p, dp + 1, p⟩ := gap_brk (by rw [hop, hsh]; exact .inl (by decide)) hwd
  have HSTEP := Lib.hid hstep
  obtain ⟨D, hD⟩ : ∃ D : Nat, (D : Int) = dp + 1 := ⟨(dp + 1).toNat, by omega⟩
  have hbrk : brkI (dp + 1) = [10] ++ (List.replicate D [32, 32]).flatten := by rw [← hD]; rfl
  have hrep : ∀ wx : World, Calls Tryz.prog 110 #[.string ⟨#[32, 32]⟩, .int .i64 (dp + 1)] wx fun e w' => e = .returned (.string (txt (List.replicate D [32, 32]).flatten)) ∧ Below wx.heap.size wx w' := fun wx => by
    rw [← hD, ← repeat_blanks]
    exact Tryz.strings_Repeat ⟨#[32, 32]⟩ D wx (by omega) (by show 2 * D ≤ _; omega)
  have hrl : (List.replicate D [(32 : UInt8), 32]).flatten.length = D * 2 := by simp [List.length_flatten]
  have hadd := add_lit (a := [10]) (b := (List.replicate D [(32 : UInt8), 32]).flatten) (s := txt (List.replicate D [(32 : UInt8), 32]).flatten) (c := brkI (dp + 1)) rfl hbrk.symm (by simp) (by omega)
  have hgl : (brkI (dp + 1)).length ≤ 200001 := by rw [hbrk, List.length_append, hrl]; simp; omega
  have ha1 := hadd.1
  have ha2 := hadd.2
  have t10 : (⟨#[10]⟩ : ByteArray) = txt [10] := rfl
  have HREP := Lib.hid hrep
  have HGL := Lib.hid hgl
  have HEM := Lib.hid hs
  have HL := Lib.hid hel
  clear hs hel hop hsh hwd hstep hbrk hrep hadd hgl hD hla91 hla123 hla44 hla58 hp93 hp125 hla
  have hE1 : Emb 72 B P o [.int .i64 (dp + 1), .string (txt la)] (w.setCell ⟨P, 2, none⟩ (.int .i64 (dp + 1))) := (HEM.out).rest (i := 0) (x := .int .i64 (dp + 1))
  have hT1 : Turn B P w (w.setCell ⟨P, 2, none⟩ (.int .i64 (dp + 1))) := (Turn.refl B P w).set HL.out.1 2 (.int .i64 (dp + 1))
  obtain ⟨W1, hW1⟩ : ∃ W1, (w.setCell ⟨P, 2, none⟩ (.int .i64 (dp + 1))) = W1 := ⟨_, rfl⟩
  rw [hW1] at hE1 hT1
  have HW1 := Lib.hid hW1
  clear hW1
  have HE1 := Lib.hid hE1
  have HT1 := Lib.hid hT1
  clear hE1 hT1
  go_enter Tryz.func229, Tryz.ntmps229
  go_upto_region 8 with fail
  rw [HW1.out]
  have e2' : W1.cell? ⟨P, 2, none⟩ = some (.int .i64 (dp + 1)) := HE1.out.cell (i := 0)
  have e3' : W1.cell? ⟨P, 3, none⟩ = some (.string (txt la)) := HE1.out.cell (i := 1)
  go_region_with (first | (go_at_call 110; refine (HREP.out _).mono ?_; rintro e wq ⟨rfl, kq⟩) | (go_at_call 108; refine (Emb.str_any (rest := [.int .i64 (dp + 1), .string (txt la)]) lies_wide (HE1.out.kept ((Below.refl _ _).drew.trans kq)) (m := brkI (dp + 1)) (by have := HGL.out; omega)).mono ?_; rintro e w5 ⟨rfl, h5, t5⟩))
  all_goals
    have h5c : w5.cell? ⟨P, 3, none⟩ = some (.string (txt la)) := Emb.cell (.inr h5) (i := 1)
    have T5 := Lib.hid ((Turn.of_below ((Below.refl _ _).drew.trans kq) HE1.out.lt.2.1).trans t5)
    have H5 := Lib.hid h5
    clear h5 t5 kq
    go_wp2_with fail
    refine (Emb.str_any (rest := [.int .i64 (dp + 1), .string (txt la)]) lies_wide (.inr H5.out) (m := p) (by have := HGL.out; rw [List.length_append]; omega)).mono ?_
    rintro e w6 ⟨rfl, h6, t6⟩
    have h6f := (Emb.free (.inr h6) 3 : w6.frozen? ⟨P, 3, none⟩ = false)
    have h6c : w6.cell? ⟨P, 3, none⟩ = some (.string (txt la)) := Emb.cell (.inr h6) (i := 1)
    have h6l := h6.lt
    have H6 := Lib.hid h6
    have T6 := Lib.hid t6
    clear h6 t6
    go_wp2_with fail
    go_end0
    refine ⟨rfl, ?_, ((HT1.out.trans T5.out).trans T6.out).set HL.out.1 3 _⟩
    rw [HSTEP.out]
    exact Emb.rest (i := 1) (x := .string (txt p)) (.inr H6.out)
set_option maxRecDepth 100000 in
set_option maxHeartbeats 2000000 in
theorem wwrite_cs1 {P B : Nat} {o la p : List UInt8} {dp : Int} {w : World} (hs : WAt P B ⟨o, dp, la⟩ w) (ho : o.length ≤ 100000000000) (hpl : p.length ≤ 100000) (_hd0 : -1 ≤ dp) (_hd1 : dp ≤ 100000) (_hw0 : 0 ≤ wdeep ⟨o, dp, la⟩ p) (_hw1 : wdeep ⟨o, dp, la⟩ p ≤ 100000) (hla : la = [44]) (hp : p = [93]) :
    Calls Tryz.prog 229 #[.pointer (some ⟨P, 0, none⟩), .string (txt p)] w fun e w' => e = .returned (.tuple #[]) ∧ WAt P B (wstep ⟨o, dp, la⟩ p) w' ∧ Turn B P w w' := by
  have t91 : (⟨#[91]⟩ : ByteArray) = txt [91] := rfl
  have t123 : (⟨#[123]⟩ : ByteArray) = txt [123] := rfl
  have t93 : (⟨#[93]⟩ : ByteArray) = txt [93] := rfl
  have t125 : (⟨#[125]⟩ : ByteArray) = txt [125] := rfl
  have t44 : (⟨#[44]⟩ : ByteArray) = txt [44] := rfl
  have t58 : (⟨#[58]⟩ : ByteArray) = txt [58] := rfl
  have hel := hs.lt
  have hPl := hel.2.2
  have f2 := hs.free 2
  have f3 := hs.free 3
  have e2 : w.cell? ⟨P, 2, none⟩ = some (.int .i64 dp) := hs.cell (i := 0)
  have e3 : w.cell? ⟨P, 3, none⟩ = some (.string (txt la)) := hs.cell (i := 1)
  have hla91 : la ≠ [91] := by rw [hla]; decide
  have hla123 : la ≠ [123] := by rw [hla]; decide
  have hla44 : la = [44] := hla
  have hla58 : la ≠ [58] := by rw [hla]; decide
  have hp93 : p = [93] := hp
  have hp125 : p ≠ [125] := by rw [hp]; decide
  have qla91 : ((txt la).toList == (txt [91]).toList) = false := txt_ne hla91
  have qla123 : ((txt la).toList == (txt [123]).toList) = false := txt_ne hla123
  have qla44 : ((txt la).toList == (txt [44]).toList) = true := by rw [hla44]; simp
  have qla58 : ((txt la).toList == (txt [58]).toList) = false := txt_ne hla58
  have qp93 : ((txt p).toList == (txt [93]).toList) = true := by rw [hp93]; simp
  have qp125 : ((txt p).toList == (txt [125]).toList) = false := txt_ne hp125
  have hop : opens la = false := by simp [opens, hla91, hla123]
  have hsh : shuts p = true := by simp [shuts, hp93]
  have hwd : wdeep ⟨o, dp, la⟩ p = dp - 1 := by simp [wdeep, hop, hsh]
  rw [hwd] at _hw0 _hw1
  have wr2 : IntKind.i64.wrap (dp - 1) = dp - 1 := by simp only [IntKind.wrap, IntKind.signed, IntKind.bits]; simp; omega
  have hstep : wstep ⟨o, dp, la⟩ p = ⟨(o ++ brkI (dp - 1)) ++ p, dp - 1, p⟩ := gap_brk (by rw [hop, hsh]; exact .inl (by decide)) hwd
  have HSTEP := Lib.hid hstep
  obtain ⟨D, hD⟩ : ∃ D : Nat, (D : Int) = dp - 1 := ⟨(dp - 1).toNat, by omega⟩
  have hbrk : brkI (dp - 1) = [10] ++ (List.replicate D [32, 32]).flatten := by rw [← hD]; rfl
  have hrep : ∀ wx : World, Calls Tryz.prog 110 #[.string ⟨#[32, 32]⟩, .int .i64 (dp - 1)] wx fun e w' => e = .returned (.string (txt (List.replicate D [32, 32]).flatten)) ∧ Below wx.heap.size wx w' := fun wx => by
    rw [← hD, ← repeat_blanks]
    exact Tryz.strings_Repeat ⟨#[32, 32]⟩ D wx (by omega) (by show 2 * D ≤ _; omega)
  have hrl : (List.replicate D [(32 : UInt8), 32]).flatten.length = D * 2 := by simp [List.length_flatten]
  have hadd := add_lit (a := [10]) (b := (List.replicate D [(32 : UInt8), 32]).flatten) (s := txt (List.replicate D [(32 : UInt8), 32]).flatten) (c := brkI (dp - 1)) rfl hbrk.symm (by simp) (by omega)
  have hgl : (brkI (dp - 1)).length ≤ 200001 := by rw [hbrk, List.length_append, hrl]; simp; omega
  have ha1 := hadd.1
  have ha2 := hadd.2
  have t10 : (⟨#[10]⟩ : ByteArray) = txt [10] := rfl
  have HREP := Lib.hid hrep
  have HGL := Lib.hid hgl
  have HEM := Lib.hid hs
  have HL := Lib.hid hel
  clear hs hel hop hsh hwd hstep hbrk hrep hadd hgl hD hla91 hla123 hla44 hla58 hp93 hp125 hla hp
  have hE1 : Emb 72 B P o [.int .i64 (dp - 1), .string (txt la)] (w.setCell ⟨P, 2, none⟩ (.int .i64 (dp - 1))) := (HEM.out).rest (i := 0) (x := .int .i64 (dp - 1))
  have hT1 : Turn B P w (w.setCell ⟨P, 2, none⟩ (.int .i64 (dp - 1))) := (Turn.refl B P w).set HL.out.1 2 (.int .i64 (dp - 1))
  obtain ⟨W1, hW1⟩ : ∃ W1, (w.setCell ⟨P, 2, none⟩ (.int .i64 (dp - 1))) = W1 := ⟨_, rfl⟩
  rw [hW1] at hE1 hT1
  have HW1 := Lib.hid hW1
  clear hW1
  have HE1 := Lib.hid hE1
  have HT1 := Lib.hid hT1
  clear hE1 hT1
  go_enter Tryz.func229, Tryz.ntmps229
  go_upto_region 8 with fail
  rw [HW1.out]
  have e2' : W1.cell? ⟨P, 2, none⟩ = some (.int .i64 (dp - 1)) := HE1.out.cell (i := 0)
  have e3' : W1.cell? ⟨P, 3, none⟩ = some (.string (txt la)) := HE1.out.cell (i := 1)
  go_region_with (first | (go_at_call 110; refine (HREP.out _).mono ?_; rintro e wq ⟨rfl, kq⟩) | (go_at_call 108; refine (Emb.str_any (rest := [.int .i64 (dp - 1), .string (txt la)]) lies_wide (HE1.out.kept ((Below.refl _ _).drew.trans kq)) (m := brkI (dp - 1)) (by have := HGL.out; omega)).mono ?_; rintro e w5 ⟨rfl, h5, t5⟩))
  all_goals
    have h5c : w5.cell? ⟨P, 3, none⟩ = some (.string (txt la)) := Emb.cell (.inr h5) (i := 1)
    have T5 := Lib.hid ((Turn.of_below ((Below.refl _ _).drew.trans kq) HE1.out.lt.2.1).trans t5)
    have H5 := Lib.hid h5
    clear h5 t5 kq
    go_wp2_with fail
    refine (Emb.str_any (rest := [.int .i64 (dp - 1), .string (txt la)]) lies_wide (.inr H5.out) (m := p) (by have := HGL.out; rw [List.length_append]; omega)).mono ?_
    rintro e w6 ⟨rfl, h6, t6⟩
    have h6f := (Emb.free (.inr h6) 3 : w6.frozen? ⟨P, 3, none⟩ = false)
    have h6c : w6.cell? ⟨P, 3, none⟩ = some (.string (txt la)) := Emb.cell (.inr h6) (i := 1)
    have h6l := h6.lt
    have H6 := Lib.hid h6
    have T6 := Lib.hid t6
    clear h6 t6
    go_wp2_with fail
    go_end0
    refine ⟨rfl, ?_, ((HT1.out.trans T5.out).trans T6.out).set HL.out.1 3 _⟩
    rw [HSTEP.out]
    exact Emb.rest (i := 1) (x := .string (txt p)) (.inr H6.out)
set_option maxRecDepth 100000 in
set_option maxHeartbeats 2000000 in
theorem wwrite_cs2 {P B : Nat} {o la p : List UInt8} {dp : Int} {w : World} (hs : WAt P B ⟨o, dp, la⟩ w) (ho : o.length ≤ 100000000000) (hpl : p.length ≤ 100000) (_hd0 : -1 ≤ dp) (_hd1 : dp ≤ 100000) (_hw0 : 0 ≤ wdeep ⟨o, dp, la⟩ p) (_hw1 : wdeep ⟨o, dp, la⟩ p ≤ 100000) (hla : la = [44]) (hp : p = [125]) :
    Calls Tryz.prog 229 #[.pointer (some ⟨P, 0, none⟩), .string (txt p)] w fun e w' => e = .returned (.tuple #[]) ∧ WAt P B (wstep ⟨o, dp, la⟩ p) w' ∧ Turn B P w w' := by
  have t91 : (⟨#[91]⟩ : ByteArray) = txt [91] := rfl
  have t123 : (⟨#[123]⟩ : ByteArray) = txt [123] := rfl
  have t93 : (⟨#[93]⟩ : ByteArray) = txt [93] := rfl
  have t125 : (⟨#[125]⟩ : ByteArray) = txt [125] := rfl
  have t44 : (⟨#[44]⟩ : ByteArray) = txt [44] := rfl
  have t58 : (⟨#[58]⟩ : ByteArray) = txt [58] := rfl
  have hel := hs.lt
  have hPl := hel.2.2
  have f2 := hs.free 2
  have f3 := hs.free 3
  have e2 : w.cell? ⟨P, 2, none⟩ = some (.int .i64 dp) := hs.cell (i := 0)
  have e3 : w.cell? ⟨P, 3, none⟩ = some (.string (txt la)) := hs.cell (i := 1)
  have hla91 : la ≠ [91] := by rw [hla]; decide
  have hla123 : la ≠ [123] := by rw [hla]; decide
  have hla44 : la = [44] := hla
  have hla58 : la ≠ [58] := by rw [hla]; decide
  have hp93 : p ≠ [93] := by rw [hp]; decide
  have hp125 : p = [125] := hp
  have qla91 : ((txt la).toList == (txt [91]).toList) = false := txt_ne hla91
  have qla123 : ((txt la).toList == (txt [123]).toList) = false := txt_ne hla123
  have qla44 : ((txt la).toList == (txt [44]).toList) = true := by rw [hla44]; simp
  have qla58 : ((txt la).toList == (txt [58]).toList) = false := txt_ne hla58
  have qp93 : ((txt p).toList == (txt [93]).toList) = false := txt_ne hp93
  have qp125 : ((txt p).toList == (txt [125]).toList) = true := by rw [hp125]; simp
  have hop : opens la = false := by simp [opens, hla91, hla123]
  have hsh : shuts p = true := by simp [shuts, hp125]
  have hwd : wdeep ⟨o, dp, la⟩ p = dp - 1 := by simp [wdeep, hop, hsh]
  rw [hwd] at _hw0 _hw1
  have wr2 : IntKind.i64.wrap (dp - 1) = dp - 1 := by simp only [IntKind.wrap, IntKind.signed, IntKind.bits]; simp; omega
  have hstep : wstep ⟨o, dp, la⟩ p = ⟨(o ++ brkI (dp - 1)) ++ p, dp - 1, p⟩ := gap_brk (by rw [hop, hsh]; exact .inl (by decide)) hwd
  have HSTEP := Lib.hid hstep
  obtain ⟨D, hD⟩ : ∃ D : Nat, (D : Int) = dp - 1 := ⟨(dp - 1).toNat, by omega⟩
  have hbrk : brkI (dp - 1) = [10] ++ (List.replicate D [32, 32]).flatten := by rw [← hD]; rfl
  have hrep : ∀ wx : World, Calls Tryz.prog 110 #[.string ⟨#[32, 32]⟩, .int .i64 (dp - 1)] wx fun e w' => e = .returned (.string (txt (List.replicate D [32, 32]).flatten)) ∧ Below wx.heap.size wx w' := fun wx => by
    rw [← hD, ← repeat_blanks]
    exact Tryz.strings_Repeat ⟨#[32, 32]⟩ D wx (by omega) (by show 2 * D ≤ _; omega)
  have hrl : (List.replicate D [(32 : UInt8), 32]).flatten.length = D * 2 := by simp [List.length_flatten]
  have hadd := add_lit (a := [10]) (b := (List.replicate D [(32 : UInt8), 32]).flatten) (s := txt (List.replicate D [(32 : UInt8), 32]).flatten) (c := brkI (dp - 1)) rfl hbrk.symm (by simp) (by omega)
  have hgl : (brkI (dp - 1)).length ≤ 200001 := by rw [hbrk, List.length_append, hrl]; simp; omega
  have ha1 := hadd.1
  have ha2 := hadd.2
  have t10 : (⟨#[10]⟩ : ByteArray) = txt [10] := rfl
  have HREP := Lib.hid hrep
  have HGL := Lib.hid hgl
  have HEM := Lib.hid hs
  have HL := Lib.hid hel
  clear hs hel hop hsh hwd hstep hbrk hrep hadd hgl hD hla91 hla123 hla44 hla58 hp93 hp125 hla hp
  have hE1 : Emb 72 B P o [.int .i64 (dp - 1), .string (txt la)] (w.setCell ⟨P, 2, none⟩ (.int .i64 (dp - 1))) := (HEM.out).rest (i := 0) (x := .int .i64 (dp - 1))
  have hT1 : Turn B P w (w.setCell ⟨P, 2, none⟩ (.int .i64 (dp - 1))) := (Turn.refl B P w).set HL.out.1 2 (.int .i64 (dp - 1))
  obtain ⟨W1, hW1⟩ : ∃ W1, (w.setCell ⟨P, 2, none⟩ (.int .i64 (dp - 1))) = W1 := ⟨_, rfl⟩
  rw [hW1] at hE1 hT1
  have HW1 := Lib.hid hW1
  clear hW1
  have HE1 := Lib.hid hE1
  have HT1 := Lib.hid hT1
  clear hE1 hT1
  go_enter Tryz.func229, Tryz.ntmps229
  go_upto_region 8 with fail
  rw [HW1.out]
  have e2' : W1.cell? ⟨P, 2, none⟩ = some (.int .i64 (dp - 1)) := HE1.out.cell (i := 0)
  have e3' : W1.cell? ⟨P, 3, none⟩ = some (.string (txt la)) := HE1.out.cell (i := 1)
  go_region_with (first | (go_at_call 110; refine (HREP.out _).mono ?_; rintro e wq ⟨rfl, kq⟩) | (go_at_call 108; refine (Emb.str_any (rest := [.int .i64 (dp - 1), .string (txt la)]) lies_wide (HE1.out.kept ((Below.refl _ _).drew.trans kq)) (m := brkI (dp - 1)) (by have := HGL.out; omega)).mono ?_; rintro e w5 ⟨rfl, h5, t5⟩))
  all_goals
    have h5c : w5.cell? ⟨P, 3, none⟩ = some (.string (txt la)) := Emb.cell (.inr h5) (i := 1)
    have T5 := Lib.hid ((Turn.of_below ((Below.refl _ _).drew.trans kq) HE1.out.lt.2.1).trans t5)
    have H5 := Lib.hid h5
    clear h5 t5 kq
    go_wp2_with fail
    refine (Emb.str_any (rest := [.int .i64 (dp - 1), .string (txt la)]) lies_wide (.inr H5.out) (m := p) (by have := HGL.out; rw [List.length_append]; omega)).mono ?_
    rintro e w6 ⟨rfl, h6, t6⟩
    have h6f := (Emb.free (.inr h6) 3 : w6.frozen? ⟨P, 3, none⟩ = false)
    have h6c : w6.cell? ⟨P, 3, none⟩ = some (.string (txt la)) := Emb.cell (.inr h6) (i := 1)
    have h6l := h6.lt
    have H6 := Lib.hid h6
    have T6 := Lib.hid t6
    clear h6 t6
    go_wp2_with fail
    go_end0
    refine ⟨rfl, ?_, ((HT1.out.trans T5.out).trans T6.out).set HL.out.1 3 _⟩
    rw [HSTEP.out]
    exact Emb.rest (i := 1) (x := .string (txt p)) (.inr H6.out)
set_option maxRecDepth 100000 in
set_option maxHeartbeats 2000000 in
theorem wwrite_cy {P B : Nat} {o la p : List UInt8} {dp : Int} {w : World} (hs : WAt P B ⟨o, dp, la⟩ w) (ho : o.length ≤ 100000000000) (hpl : p.length ≤ 100000) (_hd0 : -1 ≤ dp) (_hd1 : dp ≤ 100000) (_hw0 : 0 ≤ wdeep ⟨o, dp, la⟩ p) (_hw1 : wdeep ⟨o, dp, la⟩ p ≤ 100000) (hla : la = [44]) (hp93 : p ≠ [93]) (hp125 : p ≠ [125]) :
    Calls Tryz.prog 229 #[.pointer (some ⟨P, 0, none⟩), .string (txt p)] w fun e w' => e = .returned (.tuple #[]) ∧ WAt P B (wstep ⟨o, dp, la⟩ p) w' ∧ Turn B P w w' := by
  have t91 : (⟨#[91]⟩ : ByteArray) = txt [91] := rfl
  have t123 : (⟨#[123]⟩ : ByteArray) = txt [123] := rfl
  have t93 : (⟨#[93]⟩ : ByteArray) = txt [93] := rfl
  have t125 : (⟨#[125]⟩ : ByteArray) = txt [125] := rfl
  have t44 : (⟨#[44]⟩ : ByteArray) = txt [44] := rfl
  have t58 : (⟨#[58]⟩ : ByteArray) = txt [58] := rfl
  have hel := hs.lt
  have hPl := hel.2.2
  have f2 := hs.free 2
  have f3 := hs.free 3
  have e2 : w.cell? ⟨P, 2, none⟩ = some (.int .i64 dp) := hs.cell (i := 0)
  have e3 : w.cell? ⟨P, 3, none⟩ = some (.string (txt la)) := hs.cell (i := 1)
  have hla91 : la ≠ [91] := by rw [hla]; decide
  have hla123 : la ≠ [123] := by rw [hla]; decide
  have hla44 : la = [44] := hla
  have hla58 : la ≠ [58] := by rw [hla]; decide
  have qla91 : ((txt la).toList == (txt [91]).toList) = false := txt_ne hla91
  have qla123 : ((txt la).toList == (txt [123]).toList) = false := txt_ne hla123
  have qla44 : ((txt la).toList == (txt [44]).toList) = true := by rw [hla44]; simp
  have qla58 : ((txt la).toList == (txt [58]).toList) = false := txt_ne hla58
  have qp93 : ((txt p).toList == (txt [93]).toList) = false := txt_ne hp93
  have qp125 : ((txt p).toList == (txt [125]).toList) = false := txt_ne hp125
  have hop : opens la = false := by simp [opens, hla91, hla123]
  have hsh : shuts p = false := by simp [shuts, hp93, hp125]
  have hwd : wdeep ⟨o, dp, la⟩ p = dp := by simp [wdeep, hop, hsh]
  rw [hwd] at _hw0 _hw1
  have hstep : wstep ⟨o, dp, la⟩ p = ⟨(o ++ brkI (dp)) ++ p, dp, p⟩ := gap_brk (by exact .inr hla44) hwd
  have HSTEP := Lib.hid hstep
  obtain ⟨D, hD⟩ : ∃ D : Nat, (D : Int) = dp := ⟨(dp).toNat, by omega⟩
  have hbrk : brkI (dp) = [10] ++ (List.replicate D [32, 32]).flatten := by rw [← hD]; rfl
  have hrep : ∀ wx : World, Calls Tryz.prog 110 #[.string ⟨#[32, 32]⟩, .int .i64 (dp)] wx fun e w' => e = .returned (.string (txt (List.replicate D [32, 32]).flatten)) ∧ Below wx.heap.size wx w' := fun wx => by
    rw [← hD, ← repeat_blanks]
    exact Tryz.strings_Repeat ⟨#[32, 32]⟩ D wx (by omega) (by show 2 * D ≤ _; omega)
  have hrl : (List.replicate D [(32 : UInt8), 32]).flatten.length = D * 2 := by simp [List.length_flatten]
  have hadd := add_lit (a := [10]) (b := (List.replicate D [(32 : UInt8), 32]).flatten) (s := txt (List.replicate D [(32 : UInt8), 32]).flatten) (c := brkI (dp)) rfl hbrk.symm (by simp) (by omega)
  have hgl : (brkI (dp)).length ≤ 200001 := by rw [hbrk, List.length_append, hrl]; simp; omega
  have ha1 := hadd.1
  have ha2 := hadd.2
  have t10 : (⟨#[10]⟩ : ByteArray) = txt [10] := rfl
  have HREP := Lib.hid hrep
  have HGL := Lib.hid hgl
  have HEM := Lib.hid hs
  have HL := Lib.hid hel
  clear hs hel hop hsh hwd hstep hbrk hrep hadd hgl hD hla91 hla123 hla44 hla58 hp93 hp125 hla
  have hE1 : Emb 72 B P o [.int .i64 (dp), .string (txt la)] w := HEM.out
  have hT1 : Turn B P w w := Turn.refl B P w
  have HE1 := Lib.hid hE1
  have HT1 := Lib.hid hT1
  clear hE1 hT1
  go_enter Tryz.func229, Tryz.ntmps229
  go_upto_region 8 with fail
  go_region_with (first | (go_at_call 110; refine (HREP.out _).mono ?_; rintro e wq ⟨rfl, kq⟩) | (go_at_call 108; refine (Emb.str_any (rest := [.int .i64 (dp), .string (txt la)]) lies_wide (HE1.out.kept ((Below.refl _ _).drew.trans kq)) (m := brkI (dp)) (by have := HGL.out; omega)).mono ?_; rintro e w5 ⟨rfl, h5, t5⟩))
  all_goals
    have h5c : w5.cell? ⟨P, 3, none⟩ = some (.string (txt la)) := Emb.cell (.inr h5) (i := 1)
    have T5 := Lib.hid ((Turn.of_below ((Below.refl _ _).drew.trans kq) HE1.out.lt.2.1).trans t5)
    have H5 := Lib.hid h5
    clear h5 t5 kq
    go_wp2_with fail
    refine (Emb.str_any (rest := [.int .i64 (dp), .string (txt la)]) lies_wide (.inr H5.out) (m := p) (by have := HGL.out; rw [List.length_append]; omega)).mono ?_
    rintro e w6 ⟨rfl, h6, t6⟩
    have h6f := (Emb.free (.inr h6) 3 : w6.frozen? ⟨P, 3, none⟩ = false)
    have h6c : w6.cell? ⟨P, 3, none⟩ = some (.string (txt la)) := Emb.cell (.inr h6) (i := 1)
    have h6l := h6.lt
    have H6 := Lib.hid h6
    have T6 := Lib.hid t6
    clear h6 t6
    go_wp2_with fail
    go_end0
    refine ⟨rfl, ?_, ((HT1.out.trans T5.out).trans T6.out).set HL.out.1 3 _⟩
    rw [HSTEP.out]
    exact Emb.rest (i := 1) (x := .string (txt p)) (.inr H6.out)
set_option maxRecDepth 100000 in
set_option maxHeartbeats 2000000 in
theorem wwrite_ks1 {P B : Nat} {o la p : List UInt8} {dp : Int} {w : World} (hs : WAt P B ⟨o, dp, la⟩ w) (ho : o.length ≤ 100000000000) (hpl : p.length ≤ 100000) (_hd0 : -1 ≤ dp) (_hd1 : dp ≤ 100000) (_hw0 : 0 ≤ wdeep ⟨o, dp, la⟩ p) (_hw1 : wdeep ⟨o, dp, la⟩ p ≤ 100000) (hla : la = [58]) (hp : p = [93]) :
    Calls Tryz.prog 229 #[.pointer (some ⟨P, 0, none⟩), .string (txt p)] w fun e w' => e = .returned (.tuple #[]) ∧ WAt P B (wstep ⟨o, dp, la⟩ p) w' ∧ Turn B P w w' := by
  have t91 : (⟨#[91]⟩ : ByteArray) = txt [91] := rfl
  have t123 : (⟨#[123]⟩ : ByteArray) = txt [123] := rfl
  have t93 : (⟨#[93]⟩ : ByteArray) = txt [93] := rfl
  have t125 : (⟨#[125]⟩ : ByteArray) = txt [125] := rfl
  have t44 : (⟨#[44]⟩ : ByteArray) = txt [44] := rfl
  have t58 : (⟨#[58]⟩ : ByteArray) = txt [58] := rfl
  have hel := hs.lt
  have hPl := hel.2.2
  have f2 := hs.free 2
  have f3 := hs.free 3
  have e2 : w.cell? ⟨P, 2, none⟩ = some (.int .i64 dp) := hs.cell (i := 0)
  have e3 : w.cell? ⟨P, 3, none⟩ = some (.string (txt la)) := hs.cell (i := 1)
  have hla91 : la ≠ [91] := by rw [hla]; decide
  have hla123 : la ≠ [123] := by rw [hla]; decide
  have hla44 : la ≠ [44] := by rw [hla]; decide
  have hla58 : la = [58] := hla
  have hp93 : p = [93] := hp
  have hp125 : p ≠ [125] := by rw [hp]; decide
  have qla91 : ((txt la).toList == (txt [91]).toList) = false := txt_ne hla91
  have qla123 : ((txt la).toList == (txt [123]).toList) = false := txt_ne hla123
  have qla44 : ((txt la).toList == (txt [44]).toList) = false := txt_ne hla44
  have qla58 : ((txt la).toList == (txt [58]).toList) = true := by rw [hla58]; simp
  have qp93 : ((txt p).toList == (txt [93]).toList) = true := by rw [hp93]; simp
  have qp125 : ((txt p).toList == (txt [125]).toList) = false := txt_ne hp125
  have hop : opens la = false := by simp [opens, hla91, hla123]
  have hsh : shuts p = true := by simp [shuts, hp93]
  have hwd : wdeep ⟨o, dp, la⟩ p = dp - 1 := by simp [wdeep, hop, hsh]
  rw [hwd] at _hw0 _hw1
  have wr2 : IntKind.i64.wrap (dp - 1) = dp - 1 := by simp only [IntKind.wrap, IntKind.signed, IntKind.bits]; simp; omega
  have hstep : wstep ⟨o, dp, la⟩ p = ⟨(o ++ brkI (dp - 1)) ++ p, dp - 1, p⟩ := gap_brk (by rw [hop, hsh]; exact .inl (by decide)) hwd
  have HSTEP := Lib.hid hstep
  obtain ⟨D, hD⟩ : ∃ D : Nat, (D : Int) = dp - 1 := ⟨(dp - 1).toNat, by omega⟩
  have hbrk : brkI (dp - 1) = [10] ++ (List.replicate D [32, 32]).flatten := by rw [← hD]; rfl
  have hrep : ∀ wx : World, Calls Tryz.prog 110 #[.string ⟨#[32, 32]⟩, .int .i64 (dp - 1)] wx fun e w' => e = .returned (.string (txt (List.replicate D [32, 32]).flatten)) ∧ Below wx.heap.size wx w' := fun wx => by
    rw [← hD, ← repeat_blanks]
    exact Tryz.strings_Repeat ⟨#[32, 32]⟩ D wx (by omega) (by show 2 * D ≤ _; omega)
  have hrl : (List.replicate D [(32 : UInt8), 32]).flatten.length = D * 2 := by simp [List.length_flatten]
  have hadd := add_lit (a := [10]) (b := (List.replicate D [(32 : UInt8), 32]).flatten) (s := txt (List.replicate D [(32 : UInt8), 32]).flatten) (c := brkI (dp - 1)) rfl hbrk.symm (by simp) (by omega)
  have hgl : (brkI (dp - 1)).length ≤ 200001 := by rw [hbrk, List.length_append, hrl]; simp; omega
  have ha1 := hadd.1
  have ha2 := hadd.2
  have t10 : (⟨#[10]⟩ : ByteArray) = txt [10] := rfl
  have HREP := Lib.hid hrep
  have HGL := Lib.hid hgl
  have HEM := Lib.hid hs
  have HL := Lib.hid hel
  clear hs hel hop hsh hwd hstep hbrk hrep hadd hgl hD hla91 hla123 hla44 hla58 hp93 hp125 hla hp
  have hE1 : Emb 72 B P o [.int .i64 (dp - 1), .string (txt la)] (w.setCell ⟨P, 2, none⟩ (.int .i64 (dp - 1))) := (HEM.out).rest (i := 0) (x := .int .i64 (dp - 1))
  have hT1 : Turn B P w (w.setCell ⟨P, 2, none⟩ (.int .i64 (dp - 1))) := (Turn.refl B P w).set HL.out.1 2 (.int .i64 (dp - 1))
  obtain ⟨W1, hW1⟩ : ∃ W1, (w.setCell ⟨P, 2, none⟩ (.int .i64 (dp - 1))) = W1 := ⟨_, rfl⟩
  rw [hW1] at hE1 hT1
  have HW1 := Lib.hid hW1
  clear hW1
  have HE1 := Lib.hid hE1
  have HT1 := Lib.hid hT1
  clear hE1 hT1
  go_enter Tryz.func229, Tryz.ntmps229
  go_upto_region 8 with fail
  rw [HW1.out]
  have e2' : W1.cell? ⟨P, 2, none⟩ = some (.int .i64 (dp - 1)) := HE1.out.cell (i := 0)
  have e3' : W1.cell? ⟨P, 3, none⟩ = some (.string (txt la)) := HE1.out.cell (i := 1)
  go_region_with (first | (go_at_call 110; refine (HREP.out _).mono ?_; rintro e wq ⟨rfl, kq⟩) | (go_at_call 108; refine (Emb.str_any (rest := [.int .i64 (dp - 1), .string (txt la)]) lies_wide (HE1.out.kept ((Below.refl _ _).drew.trans kq)) (m := brkI (dp - 1)) (by have := HGL.out; omega)).mono ?_; rintro e w5 ⟨rfl, h5, t5⟩))
  all_goals
    have h5c : w5.cell? ⟨P, 3, none⟩ = some (.string (txt la)) := Emb.cell (.inr h5) (i := 1)
    have T5 := Lib.hid ((Turn.of_below ((Below.refl _ _).drew.trans kq) HE1.out.lt.2.1).trans t5)
    have H5 := Lib.hid h5
    clear h5 t5 kq
    go_wp2_with fail
    refine (Emb.str_any (rest := [.int .i64 (dp - 1), .string (txt la)]) lies_wide (.inr H5.out) (m := p) (by have := HGL.out; rw [List.length_append]; omega)).mono ?_
    rintro e w6 ⟨rfl, h6, t6⟩
    have h6f := (Emb.free (.inr h6) 3 : w6.frozen? ⟨P, 3, none⟩ = false)
    have h6c : w6.cell? ⟨P, 3, none⟩ = some (.string (txt la)) := Emb.cell (.inr h6) (i := 1)
    have h6l := h6.lt
    have H6 := Lib.hid h6
    have T6 := Lib.hid t6
    clear h6 t6
    go_wp2_with fail
    go_end0
    refine ⟨rfl, ?_, ((HT1.out.trans T5.out).trans T6.out).set HL.out.1 3 _⟩
    rw [HSTEP.out]
    exact Emb.rest (i := 1) (x := .string (txt p)) (.inr H6.out)
set_option maxRecDepth 100000 in
set_option maxHeartbeats 2000000 in
theorem wwrite_ks2 {P B : Nat} {o la p : List UInt8} {dp : Int} {w : World} (hs : WAt P B ⟨o, dp, la⟩ w) (ho : o.length ≤ 100000000000) (hpl : p.length ≤ 100000) (_hd0 : -1 ≤ dp) (_hd1 : dp ≤ 100000) (_hw0 : 0 ≤ wdeep ⟨o, dp, la⟩ p) (_hw1 : wdeep ⟨o, dp, la⟩ p ≤ 100000) (hla : la = [58]) (hp : p = [125]) :
    Calls Tryz.prog 229 #[.pointer (some ⟨P, 0, none⟩), .string (txt p)] w fun e w' => e = .returned (.tuple #[]) ∧ WAt P B (wstep ⟨o, dp, la⟩ p) w' ∧ Turn B P w w' := by
  have t91 : (⟨#[91]⟩ : ByteArray) = txt [91] := rfl
  have t123 : (⟨#[123]⟩ : ByteArray) = txt [123] := rfl
  have t93 : (⟨#[93]⟩ : ByteArray) = txt [93] := rfl
  have t125 : (⟨#[125]⟩ : ByteArray) = txt [125] := rfl
  have t44 : (⟨#[44]⟩ : ByteArray) = txt [44] := rfl
  have t58 : (⟨#[58]⟩ : ByteArray) = txt [58] := rfl
  have hel := hs.lt
  have hPl := hel.2.2
  have f2 := hs.free 2
  have f3 := hs.free 3
  have e2 : w.cell? ⟨P, 2, none⟩ = some (.int .i64 dp) := hs.cell (i := 0)
  have e3 : w.cell? ⟨P, 3, none⟩ = some (.string (txt la)) := hs.cell (i := 1)
  have hla91 : la ≠ [91] := by rw [hla]; decide
  have hla123 : la ≠ [123] := by rw [hla]; decide
  have hla44 : la ≠ [44] := by rw [hla]; decide
  have hla58 : la = [58] := hla
  have hp93 : p ≠ [93] := by rw [hp]; decide
  have hp125 : p = [125] := hp
  have qla91 : ((txt la).toList == (txt [91]).toList) = false := txt_ne hla91
  have qla123 : ((txt la).toList == (txt [123]).toList) = false := txt_ne hla123
  have qla44 : ((txt la).toList == (txt [44]).toList) = false := txt_ne hla44
  have qla58 : ((txt la).toList == (txt [58]).toList) = true := by rw [hla58]; simp
  have qp93 : ((txt p).toList == (txt [93]).toList) = false := txt_ne hp93
  have qp125 : ((txt p).toList == (txt [125]).toList) = true := by rw [hp125]; simp
  have hop : opens la = false := by simp [opens, hla91, hla123]
  have hsh : shuts p = true := by simp [shuts, hp125]
  have hwd : wdeep ⟨o, dp, la⟩ p = dp - 1 := by simp [wdeep, hop, hsh]
  rw [hwd] at _hw0 _hw1
  have wr2 : IntKind.i64.wrap (dp - 1) = dp - 1 := by simp only [IntKind.wrap, IntKind.signed, IntKind.bits]; simp; omega
  have hstep : wstep ⟨o, dp, la⟩ p = ⟨(o ++ brkI (dp - 1)) ++ p, dp - 1, p⟩ := gap_brk (by rw [hop, hsh]; exact .inl (by decide)) hwd
  have HSTEP := Lib.hid hstep
  obtain ⟨D, hD⟩ : ∃ D : Nat, (D : Int) = dp - 1 := ⟨(dp - 1).toNat, by omega⟩
  have hbrk : brkI (dp - 1) = [10] ++ (List.replicate D [32, 32]).flatten := by rw [← hD]; rfl
  have hrep : ∀ wx : World, Calls Tryz.prog 110 #[.string ⟨#[32, 32]⟩, .int .i64 (dp - 1)] wx fun e w' => e = .returned (.string (txt (List.replicate D [32, 32]).flatten)) ∧ Below wx.heap.size wx w' := fun wx => by
    rw [← hD, ← repeat_blanks]
    exact Tryz.strings_Repeat ⟨#[32, 32]⟩ D wx (by omega) (by show 2 * D ≤ _; omega)
  have hrl : (List.replicate D [(32 : UInt8), 32]).flatten.length = D * 2 := by simp [List.length_flatten]
  have hadd := add_lit (a := [10]) (b := (List.replicate D [(32 : UInt8), 32]).flatten) (s := txt (List.replicate D [(32 : UInt8), 32]).flatten) (c := brkI (dp - 1)) rfl hbrk.symm (by simp) (by omega)
  have hgl : (brkI (dp - 1)).length ≤ 200001 := by rw [hbrk, List.length_append, hrl]; simp; omega
  have ha1 := hadd.1
  have ha2 := hadd.2
  have t10 : (⟨#[10]⟩ : ByteArray) = txt [10] := rfl
  have HREP := Lib.hid hrep
  have HGL := Lib.hid hgl
  have HEM := Lib.hid hs
  have HL := Lib.hid hel
  clear hs hel hop hsh hwd hstep hbrk hrep hadd hgl hD hla91 hla123 hla44 hla58 hp93 hp125 hla hp
  have hE1 : Emb 72 B P o [.int .i64 (dp - 1), .string (txt la)] (w.setCell ⟨P, 2, none⟩ (.int .i64 (dp - 1))) := (HEM.out).rest (i := 0) (x := .int .i64 (dp - 1))
  have hT1 : Turn B P w (w.setCell ⟨P, 2, none⟩ (.int .i64 (dp - 1))) := (Turn.refl B P w).set HL.out.1 2 (.int .i64 (dp - 1))
  obtain ⟨W1, hW1⟩ : ∃ W1, (w.setCell ⟨P, 2, none⟩ (.int .i64 (dp - 1))) = W1 := ⟨_, rfl⟩
  rw [hW1] at hE1 hT1
  have HW1 := Lib.hid hW1
  clear hW1
  have HE1 := Lib.hid hE1
  have HT1 := Lib.hid hT1
  clear hE1 hT1
  go_enter Tryz.func229, Tryz.ntmps229
  go_upto_region 8 with fail
  rw [HW1.out]
  have e2' : W1.cell? ⟨P, 2, none⟩ = some (.int .i64 (dp - 1)) := HE1.out.cell (i := 0)
  have e3' : W1.cell? ⟨P, 3, none⟩ = some (.string (txt la)) := HE1.out.cell (i := 1)
  go_region_with (first | (go_at_call 110; refine (HREP.out _).mono ?_; rintro e wq ⟨rfl, kq⟩) | (go_at_call 108; refine (Emb.str_any (rest := [.int .i64 (dp - 1), .string (txt la)]) lies_wide (HE1.out.kept ((Below.refl _ _).drew.trans kq)) (m := brkI (dp - 1)) (by have := HGL.out; omega)).mono ?_; rintro e w5 ⟨rfl, h5, t5⟩))
  all_goals
    have h5c : w5.cell? ⟨P, 3, none⟩ = some (.string (txt la)) := Emb.cell (.inr h5) (i := 1)
    have T5 := Lib.hid ((Turn.of_below ((Below.refl _ _).drew.trans kq) HE1.out.lt.2.1).trans t5)
    have H5 := Lib.hid h5
    clear h5 t5 kq
    go_wp2_with fail
    refine (Emb.str_any (rest := [.int .i64 (dp - 1), .string (txt la)]) lies_wide (.inr H5.out) (m := p) (by have := HGL.out; rw [List.length_append]; omega)).mono ?_
    rintro e w6 ⟨rfl, h6, t6⟩
    have h6f := (Emb.free (.inr h6) 3 : w6.frozen? ⟨P, 3, none⟩ = false)
    have h6c : w6.cell? ⟨P, 3, none⟩ = some (.string (txt la)) := Emb.cell (.inr h6) (i := 1)
    have h6l := h6.lt
    have H6 := Lib.hid h6
    have T6 := Lib.hid t6
    clear h6 t6
    go_wp2_with fail
    go_end0
    refine ⟨rfl, ?_, ((HT1.out.trans T5.out).trans T6.out).set HL.out.1 3 _⟩
    rw [HSTEP.out]
    exact Emb.rest (i := 1) (x := .string (txt p)) (.inr H6.out)
set_option maxRecDepth 100000 in
set_option maxHeartbeats 2000000 in
theorem wwrite_ky {P B : Nat} {o la p : List UInt8} {dp : Int} {w : World} (hs : WAt P B ⟨o, dp, la⟩ w) (ho : o.length ≤ 100000000000) (hpl : p.length ≤ 100000) (_hd0 : -1 ≤ dp) (_hd1 : dp ≤ 100000) (_hw0 : 0 ≤ wdeep ⟨o, dp, la⟩ p) (_hw1 : wdeep ⟨o, dp, la⟩ p ≤ 100000) (hla : la = [58]) (hp93 : p ≠ [93]) (hp125 : p ≠ [125]) :
    Calls Tryz.prog 229 #[.pointer (some ⟨P, 0, none⟩), .string (txt p)] w fun e w' => e = .returned (.tuple #[]) ∧ WAt P B (wstep ⟨o, dp, la⟩ p) w' ∧ Turn B P w w' := by
  have t91 : (⟨#[91]⟩ : ByteArray) = txt [91] := rfl
  have t123 : (⟨#[123]⟩ : ByteArray) = txt [123] := rfl
  have t93 : (⟨#[93]⟩ : ByteArray) = txt [93] := rfl
  have t125 : (⟨#[125]⟩ : ByteArray) = txt [125] := rfl
  have t44 : (⟨#[44]⟩ : ByteArray) = txt [44] := rfl
  have t58 : (⟨#[58]⟩ : ByteArray) = txt [58] := rfl
  have hel := hs.lt
  have hPl := hel.2.2
  have f2 := hs.free 2
  have f3 := hs.free 3
  have e2 : w.cell? ⟨P, 2, none⟩ = some (.int .i64 dp) := hs.cell (i := 0)
  have e3 : w.cell? ⟨P, 3, none⟩ = some (.string (txt la)) := hs.cell (i := 1)
  have hla91 : la ≠ [91] := by rw [hla]; decide
  have hla123 : la ≠ [123] := by rw [hla]; decide
  have hla44 : la ≠ [44] := by rw [hla]; decide
  have hla58 : la = [58] := hla
  have qla91 : ((txt la).toList == (txt [91]).toList) = false := txt_ne hla91
  have qla123 : ((txt la).toList == (txt [123]).toList) = false := txt_ne hla123
  have qla44 : ((txt la).toList == (txt [44]).toList) = false := txt_ne hla44
  have qla58 : ((txt la).toList == (txt [58]).toList) = true := by rw [hla58]; simp
  have qp93 : ((txt p).toList == (txt [93]).toList) = false := txt_ne hp93
  have qp125 : ((txt p).toList == (txt [125]).toList) = false := txt_ne hp125
  have hop : opens la = false := by simp [opens, hla91, hla123]
  have hsh : shuts p = false := by simp [shuts, hp93, hp125]
  have hwd : wdeep ⟨o, dp, la⟩ p = dp := by simp [wdeep, hop, hsh]
  rw [hwd] at _hw0 _hw1
  have hstep : wstep ⟨o, dp, la⟩ p = ⟨(o ++ [32]) ++ p, dp, p⟩ := gap_blank hop hsh hla58
  have HSTEP := Lib.hid hstep
  have HEM := Lib.hid hs
  have HL := Lib.hid hel
  clear hs hel hop hsh hwd hstep hla91 hla123 hla44 hla58 hp93 hp125 hla
  have hE1 : Emb 72 B P o [.int .i64 (dp), .string (txt la)] w := HEM.out
  have hT1 : Turn B P w w := Turn.refl B P w
  have HE1 := Lib.hid hE1
  have HT1 := Lib.hid hT1
  clear hE1 hT1
  go_enter Tryz.func229, Tryz.ntmps229
  go_wp2_with fail
  refine (Emb.byte_any (rest := [.int .i64 (dp), .string (txt la)]) (c := 32) lies_wide HE1.out (by omega) rfl).mono ?_
  rintro e w5 ⟨rfl, h5, t5⟩
  have T5 := Lib.hid t5
  have H5 := Lib.hid h5
  clear h5 t5
  go_wp2_with fail
  refine (Emb.str_any (rest := [.int .i64 (dp), .string (txt la)]) lies_wide (.inr H5.out) (m := p) (by rw [List.length_append]; simp; omega)).mono ?_
  rintro e w6 ⟨rfl, h6, t6⟩
  have h6f := (Emb.free (.inr h6) 3 : w6.frozen? ⟨P, 3, none⟩ = false)
  have h6c : w6.cell? ⟨P, 3, none⟩ = some (.string (txt la)) := Emb.cell (.inr h6) (i := 1)
  have h6l := h6.lt
  have H6 := Lib.hid h6
  have T6 := Lib.hid t6
  clear h6 t6
  go_wp2_with fail
  go_end0
  refine ⟨rfl, ?_, ((HT1.out.trans T5.out).trans T6.out).set HL.out.1 3 _⟩
  rw [HSTEP.out]
  exact Emb.rest (i := 1) (x := .string (txt p)) (.inr H6.out)
set_option maxRecDepth 100000 in
set_option maxHeartbeats 2000000 in
theorem wwrite_xs1 {P B : Nat} {o la p : List UInt8} {dp : Int} {w : World} (hs : WAt P B ⟨o, dp, la⟩ w) (ho : o.length ≤ 100000000000) (hpl : p.length ≤ 100000) (_hd0 : -1 ≤ dp) (_hd1 : dp ≤ 100000) (_hw0 : 0 ≤ wdeep ⟨o, dp, la⟩ p) (_hw1 : wdeep ⟨o, dp, la⟩ p ≤ 100000) (hla91 : la ≠ [91]) (hla123 : la ≠ [123]) (hla44 : la ≠ [44]) (hla58 : la ≠ [58]) (hp : p = [93]) :
    Calls Tryz.prog 229 #[.pointer (some ⟨P, 0, none⟩), .string (txt p)] w fun e w' => e = .returned (.tuple #[]) ∧ WAt P B (wstep ⟨o, dp, la⟩ p) w' ∧ Turn B P w w' := by
  have t91 : (⟨#[91]⟩ : ByteArray) = txt [91] := rfl
  have t123 : (⟨#[123]⟩ : ByteArray) = txt [123] := rfl
  have t93 : (⟨#[93]⟩ : ByteArray) = txt [93] := rfl
  have t125 : (⟨#[125]⟩ : ByteArray) = txt [125] := rfl
  have t44 : (⟨#[44]⟩ : ByteArray) = txt [44] := rfl
  have t58 : (⟨#[58]⟩ : ByteArray) = txt [58] := rfl
  have hel := hs.lt
  have hPl := hel.2.2
  have f2 := hs.free 2
  have f3 := hs.free 3
  have e2 : w.cell? ⟨P, 2, none⟩ = some (.int .i64 dp) := hs.cell (i := 0)
  have e3 : w.cell? ⟨P, 3, none⟩ = some (.string (txt la)) := hs.cell (i := 1)
  have hp93 : p = [93] := hp
  have hp125 : p ≠ [125] := by rw [hp]; decide
  have qla91 : ((txt la).toList == (txt [91]).toList) = false := txt_ne hla91
  have qla123 : ((txt la).toList == (txt [123]).toList) = false := txt_ne hla123
  have qla44 : ((txt la).toList == (txt [44]).toList) = false := txt_ne hla44
  have qla58 : ((txt la).toList == (txt [58]).toList) = false := txt_ne hla58
  have qp93 : ((txt p).toList == (txt [93]).toList) = true := by rw [hp93]; simp
  have qp125 : ((txt p).toList == (txt [125]).toList) = false := txt_ne hp125
  have hop : opens la = false := by simp [opens, hla91, hla123]
  have hsh : shuts p = true := by simp [shuts, hp93]
  have hwd : wdeep ⟨o, dp, la⟩ p = dp - 1 := by simp [wdeep, hop, hsh]
  rw [hwd] at _hw0 _hw1
  have wr2 : IntKind.i64.wrap (dp - 1) = dp - 1 := by simp only [IntKind.wrap, IntKind.signed, IntKind.bits]; simp; omega
  have hstep : wstep ⟨o, dp, la⟩ p = ⟨(o ++ brkI (dp - 1)) ++ p, dp - 1, p⟩ := gap_brk (by rw [hop, hsh]; exact .inl (by decide)) hwd
  have HSTEP := Lib.hid hstep
  obtain ⟨D, hD⟩ : ∃ D : Nat, (D : Int) = dp - 1 := ⟨(dp - 1).toNat, by omega⟩
  have hbrk : brkI (dp - 1) = [10] ++ (List.replicate D [32, 32]).flatten := by rw [← hD]; rfl
  have hrep : ∀ wx : World, Calls Tryz.prog 110 #[.string ⟨#[32, 32]⟩, .int .i64 (dp - 1)] wx fun e w' => e = .returned (.string (txt (List.replicate D [32, 32]).flatten)) ∧ Below wx.heap.size wx w' := fun wx => by
    rw [← hD, ← repeat_blanks]
    exact Tryz.strings_Repeat ⟨#[32, 32]⟩ D wx (by omega) (by show 2 * D ≤ _; omega)
  have hrl : (List.replicate D [(32 : UInt8), 32]).flatten.length = D * 2 := by simp [List.length_flatten]
  have hadd := add_lit (a := [10]) (b := (List.replicate D [(32 : UInt8), 32]).flatten) (s := txt (List.replicate D [(32 : UInt8), 32]).flatten) (c := brkI (dp - 1)) rfl hbrk.symm (by simp) (by omega)
  have hgl : (brkI (dp - 1)).length ≤ 200001 := by rw [hbrk, List.length_append, hrl]; simp; omega
  have ha1 := hadd.1
  have ha2 := hadd.2
  have t10 : (⟨#[10]⟩ : ByteArray) = txt [10] := rfl
  have HREP := Lib.hid hrep
  have HGL := Lib.hid hgl
  have HEM := Lib.hid hs
  have HL := Lib.hid hel
  clear hs hel hop hsh hwd hstep hbrk hrep hadd hgl hD hla91 hla123 hla44 hla58 hp93 hp125 hp
  have hE1 : Emb 72 B P o [.int .i64 (dp - 1), .string (txt la)] (w.setCell ⟨P, 2, none⟩ (.int .i64 (dp - 1))) := (HEM.out).rest (i := 0) (x := .int .i64 (dp - 1))
  have hT1 : Turn B P w (w.setCell ⟨P, 2, none⟩ (.int .i64 (dp - 1))) := (Turn.refl B P w).set HL.out.1 2 (.int .i64 (dp - 1))
  obtain ⟨W1, hW1⟩ : ∃ W1, (w.setCell ⟨P, 2, none⟩ (.int .i64 (dp - 1))) = W1 := ⟨_, rfl⟩
  rw [hW1] at hE1 hT1
  have HW1 := Lib.hid hW1
  clear hW1
  have HE1 := Lib.hid hE1
  have HT1 := Lib.hid hT1
  clear hE1 hT1
  go_enter Tryz.func229, Tryz.ntmps229
  go_upto_region 8 with fail
  rw [HW1.out]
  have e2' : W1.cell? ⟨P, 2, none⟩ = some (.int .i64 (dp - 1)) := HE1.out.cell (i := 0)
  have e3' : W1.cell? ⟨P, 3, none⟩ = some (.string (txt la)) := HE1.out.cell (i := 1)
  go_region_with (first | (go_at_call 110; refine (HREP.out _).mono ?_; rintro e wq ⟨rfl, kq⟩) | (go_at_call 108; refine (Emb.str_any (rest := [.int .i64 (dp - 1), .string (txt la)]) lies_wide (HE1.out.kept ((Below.refl _ _).drew.trans kq)) (m := brkI (dp - 1)) (by have := HGL.out; omega)).mono ?_; rintro e w5 ⟨rfl, h5, t5⟩))
  all_goals
    have h5c : w5.cell? ⟨P, 3, none⟩ = some (.string (txt la)) := Emb.cell (.inr h5) (i := 1)
    have T5 := Lib.hid ((Turn.of_below ((Below.refl _ _).drew.trans kq) HE1.out.lt.2.1).trans t5)
    have H5 := Lib.hid h5
    clear h5 t5 kq
    go_wp2_with fail
    refine (Emb.str_any (rest := [.int .i64 (dp - 1), .string (txt la)]) lies_wide (.inr H5.out) (m := p) (by have := HGL.out; rw [List.length_append]; omega)).mono ?_
    rintro e w6 ⟨rfl, h6, t6⟩
    have h6f := (Emb.free (.inr h6) 3 : w6.frozen? ⟨P, 3, none⟩ = false)
    have h6c : w6.cell? ⟨P, 3, none⟩ = some (.string (txt la)) := Emb.cell (.inr h6) (i := 1)
    have h6l := h6.lt
    have H6 := Lib.hid h6
    have T6 := Lib.hid t6
    clear h6 t6
    go_wp2_with fail
    go_end0
    refine ⟨rfl, ?_, ((HT1.out.trans T5.out).trans T6.out).set HL.out.1 3 _⟩
    rw [HSTEP.out]
    exact Emb.rest (i := 1) (x := .string (txt p)) (.inr H6.out)
set_option maxRecDepth 100000 in
set_option maxHeartbeats 2000000 in
theorem wwrite_xs2 {P B : Nat} {o la p : List UInt8} {dp : Int} {w : World} (hs : WAt P B ⟨o, dp, la⟩ w) (ho : o.length ≤ 100000000000) (hpl : p.length ≤ 100000) (_hd0 : -1 ≤ dp) (_hd1 : dp ≤ 100000) (_hw0 : 0 ≤ wdeep ⟨o, dp, la⟩ p) (_hw1 : wdeep ⟨o, dp, la⟩ p ≤ 100000) (hla91 : la ≠ [91]) (hla123 : la ≠ [123]) (hla44 : la ≠ [44]) (hla58 : la ≠ [58]) (hp : p = [125]) :
    Calls Tryz.prog 229 #[.pointer (some ⟨P, 0, none⟩), .string (txt p)] w fun e w' => e = .returned (.tuple #[]) ∧ WAt P B (wstep ⟨o, dp, la⟩ p) w' ∧ Turn B P w w' := by
  have t91 : (⟨#[91]⟩ : ByteArray) = txt [91] := rfl
  have t123 : (⟨#[123]⟩ : ByteArray) = txt [123] := rfl
  have t93 : (⟨#[93]⟩ : ByteArray) = txt [93] := rfl
  have t125 : (⟨#[125]⟩ : ByteArray) = txt [125] := rfl
  have t44 : (⟨#[44]⟩ : ByteArray) = txt [44] := rfl
  have t58 : (⟨#[58]⟩ : ByteArray) = txt [58] := rfl
  have hel := hs.lt
  have hPl := hel.2.2
  have f2 := hs.free 2
  have f3 := hs.free 3
  have e2 : w.cell? ⟨P, 2, none⟩ = some (.int .i64 dp) := hs.cell (i := 0)
  have e3 : w.cell? ⟨P, 3, none⟩ = some (.string (txt la)) := hs.cell (i := 1)
  have hp93 : p ≠ [93] := by rw [hp]; decide
  have hp125 : p = [125] := hp
  have qla91 : ((txt la).toList == (txt [91]).toList) = false := txt_ne hla91
  have qla123 : ((txt la).toList == (txt [123]).toList) = false := txt_ne hla123
  have qla44 : ((txt la).toList == (txt [44]).toList) = false := txt_ne hla44
  have qla58 : ((txt la).toList == (txt [58]).toList) = false := txt_ne hla58
  have qp93 : ((txt p).toList == (txt [93]).toList) = false := txt_ne hp93
  have qp125 : ((txt p).toList == (txt [125]).toList) = true := by rw [hp125]; simp
  have hop : opens la = false := by simp [opens, hla91, hla123]
  have hsh : shuts p = true := by simp [shuts, hp125]
  have hwd : wdeep ⟨o, dp, la⟩ p = dp - 1 := by simp [wdeep, hop, hsh]
  rw [hwd] at _hw0 _hw1
  have wr2 : IntKind.i64.wrap (dp - 1) = dp - 1 := by simp only [IntKind.wrap, IntKind.signed, IntKind.bits]; simp; omega
  have hstep : wstep ⟨o, dp, la⟩ p = ⟨(o ++ brkI (dp - 1)) ++ p, dp - 1, p⟩ := gap_brk (by rw [hop, hsh]; exact .inl (by decide)) hwd
  have HSTEP := Lib.hid hstep
  obtain ⟨D, hD⟩ : ∃ D : Nat, (D : Int) = dp - 1 := ⟨(dp - 1).toNat, by omega⟩
  have hbrk : brkI (dp - 1) = [10] ++ (List.replicate D [32, 32]).flatten := by rw [← hD]; rfl
  have hrep : ∀ wx : World, Calls Tryz.prog 110 #[.string ⟨#[32, 32]⟩, .int .i64 (dp - 1)] wx fun e w' => e = .returned (.string (txt (List.replicate D [32, 32]).flatten)) ∧ Below wx.heap.size wx w' := fun wx => by
    rw [← hD, ← repeat_blanks]
    exact Tryz.strings_Repeat ⟨#[32, 32]⟩ D wx (by omega) (by show 2 * D ≤ _; omega)
  have hrl : (List.replicate D [(32 : UInt8), 32]).flatten.length = D * 2 := by simp [List.length_flatten]
  have hadd := add_lit (a := [10]) (b := (List.replicate D [(32 : UInt8), 32]).flatten) (s := txt (List.replicate D [(32 : UInt8), 32]).flatten) (c := brkI (dp - 1)) rfl hbrk.symm (by simp) (by omega)
  have hgl : (brkI (dp - 1)).length ≤ 200001 := by rw [hbrk, List.length_append, hrl]; simp; omega
  have ha1 := hadd.1
  have ha2 := hadd.2
  have t10 : (⟨#[10]⟩ : ByteArray) = txt [10] := rfl
  have HREP := Lib.hid hrep
  have HGL := Lib.hid hgl
  have HEM := Lib.hid hs
  have HL := Lib.hid hel
  clear hs hel hop hsh hwd hstep hbrk hrep hadd hgl hD hla91 hla123 hla44 hla58 hp93 hp125 hp
  have hE1 : Emb 72 B P o [.int .i64 (dp - 1), .string (txt la)] (w.setCell ⟨P, 2, none⟩ (.int .i64 (dp - 1))) := (HEM.out).rest (i := 0) (x := .int .i64 (dp - 1))
  have hT1 : Turn B P w (w.setCell ⟨P, 2, none⟩ (.int .i64 (dp - 1))) := (Turn.refl B P w).set HL.out.1 2 (.int .i64 (dp - 1))
  obtain ⟨W1, hW1⟩ : ∃ W1, (w.setCell ⟨P, 2, none⟩ (.int .i64 (dp - 1))) = W1 := ⟨_, rfl⟩
  rw [hW1] at hE1 hT1
  have HW1 := Lib.hid hW1
  clear hW1
  have HE1 := Lib.hid hE1
  have HT1 := Lib.hid hT1
  clear hE1 hT1
  go_enter Tryz.func229, Tryz.ntmps229
  go_upto_region 8 with fail
  rw [HW1.out]
  have e2' : W1.cell? ⟨P, 2, none⟩ = some (.int .i64 (dp - 1)) := HE1.out.cell (i := 0)
  have e3' : W1.cell? ⟨P, 3, none⟩ = some (.string (txt la)) := HE1.out.cell (i := 1)
  go_region_with (first | (go_at_call 110; refine (HREP.out _).mono ?_; rintro e wq ⟨rfl, kq⟩) | (go_at_call 108; refine (Emb.str_any (rest := [.int .i64 (dp - 1), .string (txt la)]) lies_wide (HE1.out.kept ((Below.refl _ _).drew.trans kq)) (m := brkI (dp - 1)) (by have := HGL.out; omega)).mono ?_; rintro e w5 ⟨rfl, h5, t5⟩))
  all_goals
    have h5c : w5.cell? ⟨P, 3, none⟩ = some (.string (txt la)) := Emb.cell (.inr h5) (i := 1)
    have T5 := Lib.hid ((Turn.of_below ((Below.refl _ _).drew.trans kq) HE1.out.lt.2.1).trans t5)
    have H5 := Lib.hid h5
    clear h5 t5 kq
    go_wp2_with fail
    refine (Emb.str_any (rest := [.int .i64 (dp - 1), .string (txt la)]) lies_wide (.inr H5.out) (m := p) (by have := HGL.out; rw [List.length_append]; omega)).mono ?_
    rintro e w6 ⟨rfl, h6, t6⟩
    have h6f := (Emb.free (.inr h6) 3 : w6.frozen? ⟨P, 3, none⟩ = false)
    have h6c : w6.cell? ⟨P, 3, none⟩ = some (.string (txt la)) := Emb.cell (.inr h6) (i := 1)
    have h6l := h6.lt
    have H6 := Lib.hid h6
    have T6 := Lib.hid t6
    clear h6 t6
    go_wp2_with fail
    go_end0
    refine ⟨rfl, ?_, ((HT1.out.trans T5.out).trans T6.out).set HL.out.1 3 _⟩
    rw [HSTEP.out]
    exact Emb.rest (i := 1) (x := .string (txt p)) (.inr H6.out)
set_option maxRecDepth 100000 in
set_option maxHeartbeats 2000000 in
theorem wwrite_xy {P B : Nat} {o la p : List UInt8} {dp : Int} {w : World} (hs : WAt P B ⟨o, dp, la⟩ w) (ho : o.length ≤ 100000000000) (hpl : p.length ≤ 100000) (_hd0 : -1 ≤ dp) (_hd1 : dp ≤ 100000) (_hw0 : 0 ≤ wdeep ⟨o, dp, la⟩ p) (_hw1 : wdeep ⟨o, dp, la⟩ p ≤ 100000) (hla91 : la ≠ [91]) (hla123 : la ≠ [123]) (hla44 : la ≠ [44]) (hla58 : la ≠ [58]) (hp93 : p ≠ [93]) (hp125 : p ≠ [125]) :
    Calls Tryz.prog 229 #[.pointer (some ⟨P, 0, none⟩), .string (txt p)] w fun e w' => e = .returned (.tuple #[]) ∧ WAt P B (wstep ⟨o, dp, la⟩ p) w' ∧ Turn B P w w' := by
  have t91 : (⟨#[91]⟩ : ByteArray) = txt [91] := rfl
  have t123 : (⟨#[123]⟩ : ByteArray) = txt [123] := rfl
  have t93 : (⟨#[93]⟩ : ByteArray) = txt [93] := rfl
  have t125 : (⟨#[125]⟩ : ByteArray) = txt [125] := rfl
  have t44 : (⟨#[44]⟩ : ByteArray) = txt [44] := rfl
  have t58 : (⟨#[58]⟩ : ByteArray) = txt [58] := rfl
  have hel := hs.lt
  have hPl := hel.2.2
  have f2 := hs.free 2
  have f3 := hs.free 3
  have e2 : w.cell? ⟨P, 2, none⟩ = some (.int .i64 dp) := hs.cell (i := 0)
  have e3 : w.cell? ⟨P, 3, none⟩ = some (.string (txt la)) := hs.cell (i := 1)
  have qla91 : ((txt la).toList == (txt [91]).toList) = false := txt_ne hla91
  have qla123 : ((txt la).toList == (txt [123]).toList) = false := txt_ne hla123
  have qla44 : ((txt la).toList == (txt [44]).toList) = false := txt_ne hla44
  have qla58 : ((txt la).toList == (txt [58]).toList) = false := txt_ne hla58
  have qp93 : ((txt p).toList == (txt [93]).toList) = false := txt_ne hp93
  have qp125 : ((txt p).toList == (txt [125]).toList) = false := txt_ne hp125
  have hop : opens la = false := by simp [opens, hla91, hla123]
  have hsh : shuts p = false := by simp [shuts, hp93, hp125]
  have hwd : wdeep ⟨o, dp, la⟩ p = dp := by simp [wdeep, hop, hsh]
  rw [hwd] at _hw0 _hw1
  have hstep : wstep ⟨o, dp, la⟩ p = ⟨o ++ p, dp, p⟩ := gap_none (by rw [hop, hsh]) hla44 hla58
  have HSTEP := Lib.hid hstep
  have HEM := Lib.hid hs
  have HL := Lib.hid hel
  clear hs hel hop hsh hwd hstep hla91 hla123 hla44 hla58 hp93 hp125
  have hE1 : Emb 72 B P o [.int .i64 (dp), .string (txt la)] w := HEM.out
  have hT1 : Turn B P w w := Turn.refl B P w
  have HE1 := Lib.hid hE1
  have HT1 := Lib.hid hT1
  clear hE1 hT1
  go_enter Tryz.func229, Tryz.ntmps229
  go_wp2_with fail
  refine (Emb.str_any (rest := [.int .i64 (dp), .string (txt la)]) lies_wide HE1.out (m := p) (by omega)).mono ?_
  rintro e w6 ⟨rfl, h6, t6⟩
  have h6f := (Emb.free (.inr h6) 3 : w6.frozen? ⟨P, 3, none⟩ = false)
  have h6c : w6.cell? ⟨P, 3, none⟩ = some (.string (txt la)) := Emb.cell (.inr h6) (i := 1)
  have h6l := h6.lt
  have H6 := Lib.hid h6
  have T6 := Lib.hid t6
  clear h6 t6
  go_wp2_with fail
  go_end0
  refine ⟨rfl, ?_, (HT1.out.trans T6.out).set HL.out.1 3 _⟩
  rw [HSTEP.out]
  exact Emb.rest (i := 1) (x := .string (txt p)) (.inr H6.out)
end Go.Proofs.YtlfbnfphocpgeaaGreatDoor.Jenc
namespace Go.Proofs.YtlfbnfphocpgeaaGreatDoor.Tre
open Go.RowKit Kit Txt
open Num (Dec zero)
/-- A value by its cells, all its memory in blocks of that kind. -/
def HoldX (X : Nat → Prop) (w : World) (u : Value) (v : Val) : Prop := ∃ cs : List Value, u = .agg cs.toArray ∧ HoldP X w cs v
theorem HoldX.hold {X : Nat → Prop} {w : World} {u : Value} {v : Val} (h : HoldX X w u v) : HoldV w u v := by
  obtain ⟨cs, hu, hc⟩ := h
  exact ⟨cs, hu, HoldP.hold v hc⟩
theorem HoldX.keep {X : Nat → Prop} {w w' : World} {u : Value} {v : Val} (h : HoldX X w u v) (hz : w.heap.size ≤ w'.heap.size) (hk : ∀ g, X g → g < w.heap.size → w'.heap[g]? = w.heap[g]?) : HoldX X w' u v := by
  obtain ⟨cs, hu, hc⟩ := h
  exact ⟨cs, hu, HoldP.keep hz hk v hc⟩
theorem HoldX.below {X : Nat → Prop} {w w' : World} {u : Value} {v : Val} (h : HoldX X w u v) (b : Below w.heap.size w w') : HoldX X w' u v := h.keep b.size fun g _ hg => b.block g hg
theorem HoldX.mono {X Y : Nat → Prop} {w : World} {u : Value} {v : Val} (h : HoldX X w u v) (hXY : ∀ g, X g → g < w.heap.size → Y g) : HoldX Y w u v := by
  obtain ⟨cs, hu, hc⟩ := h
  exact ⟨cs, hu, HoldP.mono hXY v hc⟩
theorem HoldV.x {w : World} {u : Value} {v : Val} (h : HoldV w u v) : HoldX (fun _ => True) w u v := by
  obtain ⟨cs, hu, hc⟩ := h
  exact ⟨cs, hu, HoldP.of v hc⟩
theorem set8_own {W : World} {g : Nat} {a' b' c' d' e' f' x' y' : Value} {t : TypeId} {fr : Nat × Nat} (h : W.heap[g]? = some (.cells #[a', b', c', d', e', f', x', y'] t fr)) (a b c d e f x y : Value) : ((((((((W.setCell ⟨g, 0, none⟩ a).setCell ⟨g, 1, none⟩ b).setCell ⟨g, 2, none⟩ c).setCell ⟨g, 3, none⟩ d).setCell ⟨g, 4, none⟩ e).setCell ⟨g, 5, none⟩ f).setCell ⟨g, 6, none⟩ x).setCell ⟨g, 7, none⟩ y).heap[g]? = some (.cells #[a, b, c, d, e, f, x, y] t fr) := by
  have := (set_of (set_of (set_of (set_of (set_of (set_of (set_of (set_of h 0 a) 1 b) 2 c) 3 d) 4 e) 5 f) 6 x) 7 y)
  simpa using this
end Go.Proofs.YtlfbnfphocpgeaaGreatDoor.Tre
namespace Go.Proofs.YtlfbnfphocpgeaaGreatDoor.Tre
open Go.RowKit Kit Txt
open Num (Dec zero)
theorem count_pos (v : Val) : 1 ≤ count v := by
  obtain ⟨_, _, _, _, _, _⟩ := v
  rw [count]
  omega
end Go.Proofs.YtlfbnfphocpgeaaGreatDoor.Tre
namespace Go.Proofs.YtlfbnfphocpgeaaGreatDoor.Tre
open Go.RowKit Kit Txt
open Num (Dec zero)
/-- The block is one of cells that may be written. -/
def Blk (w : World) (g : Nat) : Prop := ∃ (arr : Array Value) (t : TypeId), w.heap[g]? = some (.cells arr t (0, 0))
theorem Blk.free {w : World} {g : Nat} (h : Blk w g) (i : Nat) : w.frozen? ⟨g, i, none⟩ = false := by
  obtain ⟨arr, t, h⟩ := h
  exact free_of h i
theorem Blk.lt {w : World} {g : Nat} (h : Blk w g) : g < w.heap.size := by
  obtain ⟨arr, t, h⟩ := h
  exact lt_of_heap h
theorem Blk.keep {w w' : World} {g : Nat} (h : Blk w g) (k : w'.heap[g]? = w.heap[g]?) : Blk w' g := by
  obtain ⟨arr, t, h⟩ := h
  exact ⟨arr, t, k.trans h⟩
/-- The keys, in an interval. -/
def SepK (w : World) (lo hi : Nat) (u : Value) (ls : List (List UInt8)) : Prop :=
  ∃ a c, u = .slice a ls.length c ∧ ls.length ≤ c ∧ c ≤ 9223372036854775807 ∧ (ls = [] ∨ ∃ g, a = some ⟨g, 0, none⟩ ∧ lo ≤ g ∧ g < hi ∧ Blk w g ∧ ∀ (i : Nat) (l : List UInt8), ls[i]? = some l → w.cell? ⟨g, i, none⟩ = some (.string (txt l)))
mutual
/-- A value, in an interval: keys, then the kids' row, then kid by kid. -/
def Sep (w : World) (lo hi : Nat) (cs : List Value) : Val → Prop
  | ⟨k, i, n, s, ks, vs⟩ => ∃ uk a c p, cs = cellsV k i n s uk (.slice a vs.length c) ∧ lo ≤ p ∧ p ≤ hi ∧ SepK w lo p uk ks ∧ vs.length ≤ c ∧ c ≤ 9223372036854775807 ∧ (vs = [] ∨ ∃ g, a = some ⟨g, 0, none⟩ ∧ p ≤ g ∧ g < hi ∧ Blk w g ∧ Seps w (g + 1) hi g 0 vs)
def Seps (w : World) (lo hi g off : Nat) : List Val → Prop
  | [] => lo ≤ hi
  | v :: r => ∃ m, lo ≤ m ∧ (∃ cs, At8 w g off cs ∧ Sep w lo m cs v) ∧ Seps w m hi g (off + 8) r
end
theorem Seps.le {w : World} {g : Nat} : ∀ {vs : List Val} {lo hi off : Nat}, Seps w lo hi g off vs → lo ≤ hi
  | [], _, _, _, h => by rwa [Seps] at h
  | v :: r, lo, hi, off, h => by
    rw [Seps] at h
    obtain ⟨m, h1, _, h2⟩ := h
    exact Nat.le_trans h1 (Seps.le h2)
theorem SepK.keep {w w' : World} {lo hi : Nat} {u : Value} {ls : List (List UInt8)} (h : SepK w lo hi u ls) (hk : ∀ g, lo ≤ g → g < hi → w'.heap[g]? = w.heap[g]?) : SepK w' lo hi u ls := by
  obtain ⟨a, c, hu, h1, h2, h3⟩ := h
  refine ⟨a, c, hu, h1, h2, h3.imp id ?_⟩
  rintro ⟨g, ha, hl, hh, hb, hx⟩
  exact ⟨g, ha, hl, hh, hb.keep (hk g hl hh), fun i l hi => cell_keep (hx i l hi) (hk g hl hh)⟩
theorem SepK.mono {w : World} {lo hi lo' hi' : Nat} {u : Value} {ls : List (List UInt8)} (h : SepK w lo hi u ls) (h1 : lo' ≤ lo) (h2 : hi ≤ hi') : SepK w lo' hi' u ls := by
  obtain ⟨a, c, hu, e1, e2, h3⟩ := h
  refine ⟨a, c, hu, e1, e2, h3.imp id ?_⟩
  rintro ⟨g, ha, hl, hh, hb, hx⟩
  exact ⟨g, ha, Nat.le_trans h1 hl, Nat.lt_of_lt_of_le hh h2, hb, hx⟩
mutual
theorem Sep.keep {w w' : World} : ∀ (v : Val) {lo hi : Nat} {cs : List Value}, (∀ g, lo ≤ g → g < hi → w'.heap[g]? = w.heap[g]?) → Sep w lo hi cs v → Sep w' lo hi cs v
  | ⟨k, i, n, s, ks, vs⟩, lo, hi, cs, hk, h => by
    rw [Sep] at h ⊢
    obtain ⟨uk, a, c, p, hcs, h1, h2, hK, hc, hm, hv⟩ := h
    refine ⟨uk, a, c, p, hcs, h1, h2, hK.keep fun g hl hh => hk g hl (Nat.lt_of_lt_of_le hh h2), hc, hm, hv.imp id ?_⟩
    rintro ⟨g, ha, hl, hh, hb, hx⟩
    have e := hk g (Nat.le_trans h1 hl) hh
    exact ⟨g, ha, hl, hh, hb.keep e, Seps.keep vs (fun q h1' h2' => hk q (by omega) h2') (fun i _ _ => by unfold World.cell?; rw [e]) hx⟩
theorem Seps.keep {w w' : World} : ∀ (vs : List Val) {lo hi g off : Nat}, (∀ q, lo ≤ q → q < hi → w'.heap[q]? = w.heap[q]?) → (∀ i, off ≤ i → i < off + 8 * vs.length → w'.cell? ⟨g, i, none⟩ = w.cell? ⟨g, i, none⟩) → Seps w lo hi g off vs → Seps w' lo hi g off vs
  | [], _, _, _, _, _, _, h => by
    rw [Seps] at h ⊢
    exact h
  | v :: r, lo, hi, g, off, hk, hc, h => by
    rw [Seps] at h ⊢
    obtain ⟨m, h1, ⟨cs, h8, hv⟩, hr⟩ := h
    have hle := Seps.le hr
    refine ⟨m, h1, ⟨cs, ⟨h8.1, fun j hj => (hc (off + j) (by omega) (by simp; omega)).trans (h8.2 j hj)⟩, Sep.keep v (fun q a b => hk q a (by omega)) hv⟩, Seps.keep r (fun q a b => hk q (by omega) b) (fun i a b => hc i (by omega) (by simp; omega)) hr⟩
end
theorem Seps.mono {w : World} {g : Nat} : ∀ {vs : List Val} {lo hi hi' off : Nat}, Seps w lo hi g off vs → hi ≤ hi' → Seps w lo hi' g off vs
  | [], lo, hi, hi', off, h, hh => by
    rw [Seps] at h ⊢
    omega
  | v :: r, lo, hi, hi', off, h, hh => by
    rw [Seps] at h ⊢
    obtain ⟨m, h1, h2, hr⟩ := h
    exact ⟨m, h1, h2, Seps.mono hr hh⟩
theorem Sep.mono {w : World} {lo hi hi' : Nat} {cs : List Value} {v : Val} (h : Sep w lo hi cs v) (hh : hi ≤ hi') : Sep w lo hi' cs v := by
  obtain ⟨k, i, n, s, ks, vs⟩ := v
  rw [Sep] at h ⊢
  obtain ⟨uk, a, c, p, hcs, h1, h2, hK, hc, hm, hv⟩ := h
  refine ⟨uk, a, c, p, hcs, h1, by omega, hK, hc, hm, hv.imp id ?_⟩
  rintro ⟨g, ha, hl, hg, hb, hx⟩
  exact ⟨g, ha, hl, by omega, hb, hx.mono hh⟩
theorem Sep.lower {w : World} {lo lo' hi : Nat} {cs : List Value} {v : Val} (h : Sep w lo hi cs v) (hh : lo' ≤ lo) : Sep w lo' hi cs v := by
  obtain ⟨k, i, n, s, ks, vs⟩ := v
  rw [Sep] at h ⊢
  obtain ⟨uk, a, c, p, hcs, h1, h2, hK, hc, hm, hv⟩ := h
  exact ⟨uk, a, c, p, hcs, by omega, h2, hK.mono hh (Nat.le_refl _), hc, hm, hv⟩
theorem Seps.snoc {w : World} {g : Nat} {v : Val} {cs : List Value} : ∀ {vs : List Val} {lo m hi off : Nat}, Seps w lo m g off vs → m ≤ hi → At8 w g (off + 8 * vs.length) cs → Sep w m hi cs v → Seps w lo hi g off (vs ++ [v])
  | [], lo, m, hi, off, h, hm, h8, hv => by
    rw [Seps] at h
    rw [List.nil_append, Seps]
    refine ⟨hi, by omega, ⟨cs, by simpa using h8, hv.lower h⟩, by rw [Seps]; omega⟩
  | x :: r, lo, m, hi, off, h, hm, h8, hv => by
    rw [Seps] at h
    obtain ⟨m', h1, h2, hr⟩ := h
    rw [List.cons_append, Seps]
    exact ⟨m', h1, h2, Seps.snoc hr hm (by rw [show off + 8 + 8 * r.length = off + 8 * (x :: r).length by simp; omega]; exact h8) hv⟩
/-- One kid. -/
theorem Seps.at {w : World} {g : Nat} : ∀ {vs : List Val} {lo hi off : Nat}, Seps w lo hi g off vs → ∀ {i : Nat} {v : Val}, vs[i]? = some v → ∃ l h cs, lo ≤ l ∧ l ≤ h ∧ h ≤ hi ∧ At8 w g (off + i * 8) cs ∧ Sep w l h cs v
  | [], _, _, _, _, _, _, hi => by simp at hi
  | x :: r, lo, hi', off, h, 0, v, hi => by
    rw [Seps] at h
    obtain ⟨m, h1, ⟨cs, h8, hv⟩, hr⟩ := h
    simp at hi
    subst hi
    exact ⟨lo, m, cs, Nat.le_refl _, h1, Seps.le hr, by simpa using h8, hv⟩
  | x :: r, lo, hi', off, h, i + 1, v, hi => by
    rw [Seps] at h
    obtain ⟨m, h1, _, hr⟩ := h
    obtain ⟨l, h', cs, e1, e2, e3, e4, e5⟩ := Seps.at hr (i := i) (v := v) (by simpa using hi)
    exact ⟨l, h', cs, by omega, e2, e3, by rwa [show off + (i + 1) * 8 = off + 8 + i * 8 by omega], e5⟩
mutual
theorem Sep.holdP {w : World} : ∀ (v : Val) {lo hi : Nat} {cs : List Value}, Sep w lo hi cs v → HoldP (fun g => lo ≤ g ∧ g < hi) w cs v
  | ⟨k, i, n, s, ks, vs⟩, lo, hi, cs, h => by
    rw [Sep] at h
    rw [HoldP]
    obtain ⟨uk, a, c, p, hcs, h1, h2, ⟨ak, ck, huk, hck, hmk, hK⟩, hc, hm, hv⟩ := h
    refine ⟨uk, a, c, hcs, ⟨ak, ck, huk, hck, hmk, hK.imp id ?_⟩, hc, hm, hv.imp id ?_⟩
    · rintro ⟨g, ha, hl, hh, hb, hx⟩
      exact ⟨g, 0, ha, ⟨hl, by omega⟩, hb.lt, fun i l hi => by rw [Nat.zero_add]; exact hx i l hi⟩
    · rintro ⟨g, ha, hl, hh, hb, hx⟩
      exact ⟨g, 0, ha, ⟨by omega, hh⟩, hb.lt, HoldsP.mono (fun q hq _ => ⟨by omega, hq.2⟩) vs (Seps.holdsP vs hx)⟩
theorem Seps.holdsP {w : World} : ∀ (vs : List Val) {lo hi g off : Nat}, Seps w lo hi g off vs → HoldsP (fun q => lo ≤ q ∧ q < hi) w g off vs
  | [], _, _, _, _, _ => by rw [HoldsP]; trivial
  | v :: r, lo, hi, g, off, h => by
    rw [Seps] at h
    rw [HoldsP]
    obtain ⟨m, h1, ⟨cs, h8, hv⟩, hr⟩ := h
    have hle := Seps.le hr
    exact ⟨⟨cs, h8, HoldP.mono (fun q hq _ => ⟨hq.1, by omega⟩) v (Sep.holdP v hv)⟩, HoldsP.mono (fun q hq _ => ⟨by omega, hq.2⟩) r (Seps.holdsP r hr)⟩
end
theorem ShpKs.mono {D E : Nat → Prop} {m : Nat} {w : World} {u : Value} {n : Nat} (h : ShpKs D m w u n) (hDE : ∀ g, D g → E g) : ShpKs E m w u n := by
  obtain ⟨a, c, hu, h1, h2, h3⟩ := h
  refine ⟨a, c, hu, h1, h2, h3.imp id ?_⟩
  rintro ⟨g, off, ha, hD, hx⟩
  exact ⟨g, off, ha, hDE g hD, hx⟩
mutual
theorem ShpAt.mono {D E : Nat → Prop} {m : Nat} {w : World} (hDE : ∀ g, D g → E g) : ∀ (v : Val) {g off : Nat}, ShpAt D m w g off v → ShpAt E m w g off v
  | ⟨_, _, _, _, ks, vs⟩, g, off, h => by
    rw [ShpAt] at h ⊢
    obtain ⟨h5, ⟨u, h6, hks⟩, a, c, h7, hl1, hl2, hx⟩ := h
    refine ⟨h5, ⟨u, h6, hks.mono hDE⟩, a, c, h7, hl1, hl2, hx.imp id ?_⟩
    rintro ⟨g', off', ha, hD, hv⟩
    exact ⟨g', off', ha, hDE g' hD, ShpsAt.mono hDE vs hv⟩
theorem ShpsAt.mono {D E : Nat → Prop} {m : Nat} {w : World} (hDE : ∀ g, D g → E g) : ∀ (vs : List Val) {g off : Nat}, ShpsAt D m w g off vs → ShpsAt E m w g off vs
  | [], _, _, _ => by rw [ShpsAt]; trivial
  | v :: r, g, off, h => by
    rw [ShpsAt] at h ⊢
    exact ⟨ShpAt.mono hDE v h.1, ShpsAt.mono hDE r h.2⟩
end
end Go.Proofs.YtlfbnfphocpgeaaGreatDoor.Tre
namespace Go.Proofs.YtlfbnfphocpgeaaGreatDoor.Tre
open Go.RowKit Kit Txt
open Num (Dec zero)
set_option maxRecDepth 100000 in
theorem clone_any {l : List UInt8} (hl : l.length < 1000000) {w : World} : Calls Tryz.prog 78 #[.string (txt l)] w fun e w' => e = .returned (.string (txt l)) ∧ Below w.heap.size w w' := by
  have h := Tryz.stringslite_Clone (txt l) w (by rw [txt_size]; omega)
  go_enter Tryz.func78, Tryz.ntmps78
  go_wp2_with fail
  refine h.mono ?_
  rintro e w1 ⟨rfl, k1⟩
  go_wp2_with fail
  go_ret
  exact ⟨rfl, k1⟩
/-- 's == nil' of a slice. -/
theorem eql_slice_nil {P : Program} {t e : TypeId} (h : P.underlying t = some (.slice e)) (l c : Nat) (w : World) : (binOp .eql t (.slice none l c) (.slice none 0 0)).run P w = .ok (.bool true) w := by
  simp only [binOp]
  simp [run_equal_slice_nil w t e none l c h]
theorem eql_slice_some {P : Program} {t e : TypeId} (h : P.underlying t = some (.slice e)) (p : Addr) (l c : Nat) (w : World) : (binOp .eql t (.slice (some p) l c) (.slice none 0 0)).run P w = .ok (.bool false) w := by
  simp only [binOp]
  simp [run_equal_slice_nil w t e (some p) l c h]
theorem infoStr : (Tryz.prog.info? 9).map (fun i => (i.zero, i.size, i.bytes)) = some (some (.string ⟨#[]⟩), 1, 16) := by kernel_rfl
theorem infoVal : (Tryz.prog.info? 29).map (fun i => (i.zero.isSome, i.size, i.bytes)) = some (true, 8, 112) := by kernel_rfl
/-- 'make' of a row of values. -/
theorem make_val {n : Nat} (hn : n < 1000000) (w : World) : ∃ arr : Array Value, arr.size = n * 8 ∧ (Instr.makeSlice 27 (.int .i64 (n : Int)) (.int .i64 (n : Int))).run Tryz.prog w = .ok (.slice (some ⟨w.heap.size, 0, none⟩) n n) (w.alloc (.cells arr 29)) := by
  obtain ⟨i, hi, hzz⟩ := Option.map_eq_some_iff.1 infoVal
  simp only [Prod.mk.injEq] at hzz
  obtain ⟨hz, hs, hb⟩ := hzz
  obtain ⟨z, hz⟩ := Option.isSome_iff_exists.1 hz
  have hr := run_make (P := Tryz.prog) w 27 29 i _ Tryz.underlying27 hi hz .i64 .i64 n n (by omega) (by omega) (by rw [hb]; omega) (by omega)
  simp only [Int.toNat_natCast] at hr
  exact ⟨_, by rw [size_madeCells, hs], hr⟩
set_option maxRecDepth 100000 in
set_option maxHeartbeats 4000000 in
theorem eachS_any {w : World} {u : Value} {ls : List (List UInt8)} (hn : ls.length < 1000000) (hs : ∀ x ∈ ls, x.length < 1000000) (h : Ks w u ls) : Calls Tryz.prog 79 #[u, .func (.func 78) #[] #[]] w fun e w' => (∃ y, e = .returned y ∧ SepK w' w.heap.size w'.heap.size y ls) ∧ Below w.heap.size w w' := by
  obtain ⟨a, c, rfl, hc, hm, hx⟩ := h
  rcases a with _ | ad
  · have h0 : ls = [] := by
      rcases hx with h | ⟨g, off, ha, _⟩
      · exact h
      · cases ha
    subst h0
    have hnil := eql_slice_nil Tryz.underlying26
    go_enter Tryz.func79, Tryz.ntmps79
    go_wp2_with fail
    go_ret
    exact ⟨⟨_, rfl, none, 0, rfl, Nat.le_refl _, by omega, .inl rfl⟩, Below.refl _ _⟩
  · have hnil := eql_slice_some Tryz.underlying26 ad
    have hmk := fun wx => run_make_row' (P := Tryz.prog) 26 9 (.string ⟨#[]⟩) 16 Tryz.underlying26 infoStr rfl .i64 .i64 ls.length (by omega) (by omega) wx
    have hG := World.alloc_heap_new w (.cells (madeCells #[.string ⟨#[]⟩] ls.length) 9)
    have bG : Below w.heap.size w (w.alloc (.cells (madeCells #[.string ⟨#[]⟩] ls.length) 9)) := (Below.refl _ w).alloc (Nat.le_refl _) _
    go_enter Tryz.func79, Tryz.ntmps79
    go_wp2_with fail
    go_loopw [15] (fun y wr => ∃ j : Nat, j ≤ ls.length ∧ y = .int .i64 j ∧ (∃ arr : Array Value, wr.heap[w.heap.size]? = some (.cells arr 9 (0, 0)) ∧ arr.size = ls.length ∧ ∀ (i : Nat) (l : List UInt8), i < j → ls[i]? = some l → arr[i]? = some (.string (txt l))) ∧ Below w.heap.size w wr) (fun y _ => ls.length - (intOf y).toNat)
    case atStart => exact ⟨0, Nat.zero_le _, rfl, ⟨_, hG, size_madeCells _ _, fun i l hi => absurd hi (Nat.not_lt_zero _)⟩, bG⟩
    case round =>
      obtain ⟨j, hj, rfl, ⟨arr, hA, hz, hcp⟩, bB⟩ := hrel
      clear hmk hG bG hnil
      by_cases hlt : j < ls.length
      · have hlt' : (j : Int) < (ls.length : Int) := by omega
        rcases hx with rfl | ⟨g, off, ha, hg, hx⟩
        · exact absurd hlt (Nat.not_lt_zero _)
        injection ha with ha
        subst ha
        have hcell := (bB.cell (p := ⟨g, off + j, none⟩) hg).trans (hx j _ (List.getElem?_eq_getElem hlt))
        have hlj := hs ls[j] (List.getElem_mem hlt)
        have hnext : ∀ (i : Nat) (l : List UInt8), i < j + 1 → ls[i]? = some l → i ≠ j → arr[i]? = some (.string (txt l)) := fun i l hi hl hne => hcp i l (by omega) hl
        have hget : ls[j]? = some ls[j] := List.getElem?_eq_getElem hlt
        generalize ls[j] = l at *
        have hcl := clone_any hlj (w := wr)
        have wk : IntKind.i64.wrap ((j : Int) + 1) = (j : Int) + 1 := by simp only [IntKind.wrap, IntKind.signed, IntKind.bits]; simp; omega
        have HX := Lib.hid hx
        have HN := Lib.hid hnext
        have HG := Lib.hid hget
        have HS := Lib.hid hs
        clear hx hcp hnext hget hs hm
        go_wp2_with fail
        refine hcl.mono ?_
        rintro e w1 ⟨rfl, k1⟩
        have hA1 := (k1.block _ (lt_of_heap hA)).trans hA
        have hc1 : w1.cell? ⟨w.heap.size, j, none⟩ = some arr[j] := (cell_of hA1 j).trans (Array.getElem?_eq_getElem (by omega))
        have hf1 := free_of hA1 j
        have b1 := bB.trans (k1.mono bB.size)
        go_wp2_with fail
        go_roundw
        case rel =>
          refine ⟨j + 1, by omega, by go_num, ⟨_, set_of hA1 j _, by rw [Array.size_setIfInBounds, hz], fun i x hi hx => ?_⟩, b1.setCell (p := ⟨w.heap.size, j, none⟩) (Nat.le_refl _) _⟩
          by_cases e : i = j
          · subst e
            rw [HG.out] at hx
            injection hx with hx
            subst hx
            rw [Array.getElem?_setIfInBounds_self_of_lt (by omega)]
          · rw [Array.getElem?_setIfInBounds_ne (fun h => e h.symm)]
            exact HN.out i x hi hx e
        case measure => simp [intOf]; omega
      · obtain rfl : j = ls.length := by omega
        go_wp2_with fail
        go_ret
        refine ⟨⟨_, rfl, _, _, rfl, Nat.le_refl _, by omega, .inr ⟨w.heap.size, rfl, Nat.le_refl _, lt_of_heap hA, ⟨_, _, hA⟩, fun i l hl => ?_⟩⟩, bB⟩
        rw [cell_of hA]
        exact hcp i l (List.getElem?_eq_some_iff.1 hl).1 hl
/-- What Copy tells. -/
def Copied (v : Val) (w : World) (e : Ending) (w' : World) : Prop := (∃ cs : List Value, e = .returned (.agg cs.toArray) ∧ Sep w' w.heap.size w'.heap.size cs v) ∧ Below w.heap.size w w'
/-- The kids' row, in an interval. -/
def SepV (w : World) (lo hi : Nat) (u : Value) (vs : List Val) : Prop := ∃ a c, u = .slice a vs.length c ∧ vs.length ≤ c ∧ c ≤ 9223372036854775807 ∧ (vs = [] ∨ ∃ g, a = some ⟨g, 0, none⟩ ∧ lo ≤ g ∧ g < hi ∧ Blk w g ∧ Seps w (g + 1) hi g 0 vs)
set_option maxRecDepth 100000 in
set_option maxHeartbeats 4000000 in
theorem eachV_any {w : World} {a : Option Addr} {c : Nat} {vs : List Val} (hn : vs.length < 1000000) (ih : ∀ x ∈ vs, ∀ (w : World) (u : Value), HoldV w u x → Calls Tryz.prog 53 #[u] w (Copied x w)) (h : Kids w a c vs) : Calls Tryz.prog 80 #[.slice a vs.length c, .func (.func 53) #[] #[]] w fun e w' => (∃ y, e = .returned y ∧ SepV w' w.heap.size w'.heap.size y vs) ∧ Below w.heap.size w w' := by
  obtain ⟨hc, hm, hx⟩ := h
  rcases a with _ | ad
  · have h0 : vs = [] := by
      rcases hx with h | ⟨g, off, ha, _⟩
      · exact h
      · cases ha
    subst h0
    have hnil := eql_slice_nil Tryz.underlying27
    clear ih
    go_enter Tryz.func80, Tryz.ntmps80
    go_wp2_with fail
    go_ret
    exact ⟨⟨_, rfl, none, 0, rfl, Nat.le_refl _, by omega, .inl rfl⟩, Below.refl _ _⟩
  · have hnil := eql_slice_some Tryz.underlying27 ad
    obtain ⟨arr0, hz0, hmk⟩ := make_val hn w
    have hG := World.alloc_heap_new w (.cells arr0 29)
    have bG : Below w.heap.size w (w.alloc (.cells arr0 29)) := (Below.refl _ w).alloc (Nat.le_refl _) _
    have IH := Lib.hid ih
    clear ih
    go_enter Tryz.func80, Tryz.ntmps80
    go_wp2_with fail
    go_loopw [15] (fun y wr => ∃ j : Nat, j ≤ vs.length ∧ y = .int .i64 j ∧ (∃ arr : Array Value, wr.heap[w.heap.size]? = some (.cells arr 29 (0, 0)) ∧ arr.size = vs.length * 8) ∧ Seps wr (w.heap.size + 1) wr.heap.size w.heap.size 0 (vs.take j) ∧ Below w.heap.size w wr) (fun y _ => vs.length - (intOf y).toNat)
    case atStart => exact ⟨0, Nat.zero_le _, rfl, ⟨_, hG, hz0⟩, by rw [List.take_zero, Seps, World.size_alloc]; exact Nat.le_refl _, bG⟩
    case round =>
      obtain ⟨j, hj, rfl, ⟨arr, hA, hz⟩, hcp, bB⟩ := hrel
      clear hmk hG bG hnil hz0
      by_cases hlt : j < vs.length
      · have hlt' : (j : Int) < (vs.length : Int) := by omega
        rcases hx with rfl | ⟨g, off, ha, hg, hx⟩
        · exact absurd hlt (Nat.not_lt_zero _)
        injection ha with ha
        subst ha
        obtain ⟨cs8, h8, hh⟩ := Holds.at hx (List.getElem?_eq_getElem hlt)
        have h8' := h8.below hg bB
        have hh' := Hold.below bB vs[j] hh
        have hcall := IH.out vs[j] (List.getElem_mem hlt)
        have hsnoc : vs.take (j + 1) = vs.take j ++ [vs[j]] := List.take_succ_eq_append_getElem hlt
        have htl : (vs.take j).length = j := by rw [List.length_take]; omega
        clear h8 hh
        generalize vs[j] = x at *
        have HSN := Lib.hid hsnoc
        have HCP := Lib.hid hcp
        have HX := Lib.hid hx
        have HTL := Lib.hid htl
        clear hsnoc hcp hx htl
        obtain ⟨k', b', n', s', ks', vs'⟩ := x
        have hh2 := hh'
        rw [Hold] at hh2
        obtain ⟨uk', a', c', rfl, ⟨pk', ck', rfl, -⟩, -, -, -⟩ := hh2
        obtain ⟨d0, d1, d2, d3, d4, d5, d6, d7⟩ := h8'.cells
        have hA2 := World.alloc_heap_new wr (.cells #[.int .i64 k', .bool b', .bool n'.neg, .string (txt n'.dig), .int .i64 n'.exp, .string (txt s'), .slice pk' ks'.length ck', .slice a' vs'.length c'] 29)
        obtain ⟨wB, hwB⟩ : ∃ wB, wr.alloc (.cells #[.int .i64 k', .bool b', .bool n'.neg, .string (txt n'.dig), .int .i64 n'.exp, .string (txt s'), .slice pk' ks'.length ck', .slice a' vs'.length c'] 29) = wB := ⟨_, rfl⟩
        have bC : Below wr.heap.size wr wB := by
          rw [← hwB]
          exact (Below.refl _ wr).alloc (Nat.le_refl _) _
        have zC : wB.heap.size = wr.heap.size + 1 := by rw [← hwB]; simp
        rw [hwB] at hA2
        have HW := Lib.hid hwB
        clear hwB
        obtain ⟨e0, e1, e2, e3, e4, e5, e6, e7⟩ := eight hA2
        have hcall' := hcall wB (.agg #[.int .i64 k', .bool b', .bool n'.neg, .string (txt n'.dig), .int .i64 n'.exp, .string (txt s'), .slice pk' ks'.length ck', .slice a' vs'.length c']) ⟨_, rfl, Hold.below bC _ hh'⟩
        clear hh' h8' hcall
        have HC := Lib.hid hcall'
        clear hcall'
        have hgl := Nat.lt_of_lt_of_le hg bB.size
        have wk : IntKind.i64.wrap ((j : Int) + 1) = (j : Int) + 1 := by simp only [IntKind.wrap, IntKind.signed, IntKind.bits]; simp; omega
        go_wp2_with fail
        rw [HW.out]
        go_wp2_with fail
        refine HC.out.mono ?_
        rintro e w1 ⟨⟨cs, rfl, hsep⟩, k1⟩
        have b1 := (bB.trans (bC.mono bB.size)).trans (k1.mono (Nat.le_trans bB.size bC.size))
        have hlA := lt_of_heap hA
        have hA1 := (k1.block _ (by omega)).trans ((bC.block _ hlA).trans hA)
        obtain ⟨z0, z1, z2, z3, z4, z5, z6, z7, f0, f1, f2, f3, f4, f5, f6, f7⟩ := block8 hA1 (o := j * 8) (by omega)
        have g0 := free_of hA1 (j * 8)
        have g1 := free_of hA1 (j * 8 + 1)
        have g2 := free_of hA1 (j * 8 + 2)
        have g3 := free_of hA1 (j * 8 + 3)
        have g4 := free_of hA1 (j * 8 + 4)
        have g5 := free_of hA1 (j * 8 + 5)
        have g6 := free_of hA1 (j * 8 + 6)
        have g7 := free_of hA1 (j * 8 + 7)
        have hse := hsep
        rw [Sep] at hse
        obtain ⟨uk2, a2, c2, p2, rfl, -, -, ⟨pk2, ck2, rfl, -⟩, -, -, -⟩ := hse
        have HSEP := Lib.hid hsep
        clear hsep d0 d1 d2 d3 d4 d5 d6 d7 e0 e1 e2 e3 e4 e5 e6 e7
        have hlB := k1.size
        have b2 : Below w.heap.size w (put8 w1 w.heap.size (j * 8) (.int .i64 k') (.bool b') (.bool n'.neg) (.string (txt n'.dig)) (.int .i64 n'.exp) (.string (txt s')) (.slice pk2 ks'.length ck2) (.slice a2 vs'.length c2)) := put8_below b1 (Nat.le_refl _) _ _ _ _ _ _ _ _ _
        have fin : ∃ arr' : Array Value, (put8 w1 w.heap.size (j * 8) (.int .i64 k') (.bool b') (.bool n'.neg) (.string (txt n'.dig)) (.int .i64 n'.exp) (.string (txt s')) (.slice pk2 ks'.length ck2) (.slice a2 vs'.length c2)).heap[w.heap.size]? = some (.cells arr' 29 (0, 0)) ∧ arr'.size = vs.length * 8 := by
          obtain ⟨arr', h1, h2⟩ := put8_own hA1 (.int .i64 k') (.bool b') (.bool n'.neg) (.string (txt n'.dig)) (.int .i64 n'.exp) (.string (txt s')) (.slice pk2 ks'.length ck2) (.slice a2 vs'.length c2) (o := j * 8)
          exact ⟨arr', h2, by omega⟩
        have fin2 : Seps (put8 w1 w.heap.size (j * 8) (.int .i64 k') (.bool b') (.bool n'.neg) (.string (txt n'.dig)) (.int .i64 n'.exp) (.string (txt s')) (.slice pk2 ks'.length ck2) (.slice a2 vs'.length c2)) (w.heap.size + 1) (put8 w1 w.heap.size (j * 8) (.int .i64 k') (.bool b') (.bool n'.neg) (.string (txt n'.dig)) (.int .i64 n'.exp) (.string (txt s')) (.slice pk2 ks'.length ck2) (.slice a2 vs'.length c2)).heap.size w.heap.size 0 (vs.take (j + 1)) := by
          rw [HSN.out, put8_size]
          refine Seps.snoc (m := wB.heap.size) ?_ hlB (by rw [HTL.out, Nat.zero_add, Nat.mul_comm]; exact put8_at hA1 (by omega) _ _ _ _ _ _ _ _) ?_
          · refine (Seps.keep (vs.take j) (fun q h1 h2 => (put8_block (by omega) _ _ _ _ _ _ _ _).trans ((k1.block _ (by omega)).trans (bC.block _ h2))) (fun i _ h2 => (put8_cell (by rw [HTL.out] at h2; omega) _ _ _ _ _ _ _ _).trans ?_) HCP.out).mono (by omega)
            unfold World.cell?
            rw [hA1, hA]
          · exact Sep.keep _ (fun q h1 h2 => put8_block (by omega) _ _ _ _ _ _ _ _) HSEP.out
        unfold put8 at fin fin2 b2
        have FIN := Lib.hid fin
        have FIN2 := Lib.hid fin2
        have FIN3 := Lib.hid b2
        clear fin fin2 b2 k1 bC
        unfold cellsV
        go_wp2_with fail
        go_roundw
        case rel => exact ⟨j + 1, by omega, by go_num, FIN.out, FIN2.out, FIN3.out⟩
        case measure => simp [intOf]; omega
      · obtain rfl : j = vs.length := by omega
        rw [List.take_length] at hcp
        have hle := lt_of_heap hA
        go_wp2_with fail
        go_ret
        exact ⟨⟨_, rfl, _, _, rfl, Nat.le_refl _, by omega, .inr ⟨w.heap.size, rfl, Nat.le_refl _, hle, ⟨_, _, hA⟩, hcp⟩⟩, bB⟩
theorem counts_memF {vs : List Val} {x : Val} (h : x ∈ vs) : count x ≤ counts vs := by
  induction vs with
  | nil => cases h
  | cons v r ih =>
    rw [counts]
    rcases List.mem_cons.1 h with rfl | h
    · omega
    · have := ih h
      omega
theorem counts_lenF (vs : List Val) : vs.length ≤ counts vs := by
  induction vs with
  | nil => simp [counts]
  | cons v r ih =>
    rw [counts, List.length_cons]
    have := count_pos v
    omega
theorem sepV_of {w w' : World} {lo hi hi' : Nat} {u : Value} {vs : List Val} (h : SepV w lo hi u vs) (hk : ∀ g, lo ≤ g → g < hi → w'.heap[g]? = w.heap[g]?) (hh : hi ≤ hi') : SepV w' lo hi' u vs := by
  obtain ⟨a, c, hu, h1, h2, h3⟩ := h
  refine ⟨a, c, hu, h1, h2, h3.imp id ?_⟩
  rintro ⟨g, ha, hl, hg, hb, hx⟩
  have e := hk g hl hg
  exact ⟨g, ha, hl, by omega, hb.keep e, (Seps.keep vs (fun q h1' h2' => hk q (by omega) h2') (fun i _ _ => by unfold World.cell?; rw [e]) hx).mono hh⟩
set_option maxRecDepth 100000 in
set_option maxHeartbeats 8000000 in
theorem tcopy_of : ∀ (v : Val), Mild v → count v < 1000000 → ∀ (w : World) (u : Value), HoldV w u v → Calls Tryz.prog 53 #[u] w (Copied v w) := by
  refine ind1 fun v ih hmd hct w u h => ?_
  have hsz := hmd.sizes
  have hkid := hmd.kids
  obtain ⟨k, b, n, s, ks, vs⟩ := v
  have hck : count ⟨k, b, n, s, ks, vs⟩ = 1 + ks.length + counts vs := by rw [count]
  have hlen := counts_lenF vs
  have ih' : ∀ x ∈ vs, ∀ (w : World) (u : Value), HoldV w u x → Calls Tryz.prog 53 #[u] w (Copied x w) := fun x hx => ih x hx (hkid x hx) (by have := counts_memF hx; omega)
  obtain ⟨hs1, hs2, hs3⟩ := hsz
  have hs1 : s.length ≤ 2000 := hs1
  have hs2 : n.dig.length ≤ 1200 := hs2
  have hs3 : ∀ x ∈ ks, x.length ≤ 2000 := hs3
  clear ih hkid hmd
  obtain ⟨cs, rfl, hc⟩ := h
  rw [Hold] at hc
  obtain ⟨uk, a, c, rfl, hk, hv⟩ := hc
  have hv : Kids w a c vs := hv
  have cS := fun wx (hb : Below w.heap.size w wx) => eachS_any (w := wx) (by omega) (fun x hx => by have := hs3 x hx; omega) (hk.below hb)
  have cV := fun wx (hb : Below w.heap.size w wx) => eachV_any (w := wx) (by omega) ih' (hv.below hb)
  obtain ⟨pk, ck, rfl, hck, hmk, -⟩ := hk
  have hv0 := hv.1
  have hv1 := hv.2.1
  clear hv ih' hs3
  show Calls Tryz.prog 53 #[.agg #[.int .i64 k, .bool b, .bool n.neg, .string (txt n.dig), .int .i64 n.exp, .string (txt s), .slice pk ks.length ck, .slice a vs.length c]] w _
  have hA := new_of (World.alloc_heap_new w (.cells #[.int .i64 k, .bool b, .bool n.neg, .string (txt n.dig), .int .i64 n.exp, .string (txt s), .slice pk ks.length ck, .slice a vs.length c] 29)) (.cells #[.int .i64 0, .bool false, .bool false, .string ⟨#[]⟩, .int .i64 0, .string ⟨#[]⟩, .slice none 0 0, .slice none 0 0] 29)
  have hB := World.alloc_heap_new (w.alloc (.cells #[.int .i64 k, .bool b, .bool n.neg, .string (txt n.dig), .int .i64 n.exp, .string (txt s), .slice pk ks.length ck, .slice a vs.length c] 29)) (.cells #[.int .i64 0, .bool false, .bool false, .string ⟨#[]⟩, .int .i64 0, .string ⟨#[]⟩, .slice none 0 0, .slice none 0 0] 29)
  rw [World.size_alloc] at hB
  obtain ⟨w0, hw0⟩ : ∃ w0, (w.alloc (.cells #[.int .i64 k, .bool b, .bool n.neg, .string (txt n.dig), .int .i64 n.exp, .string (txt s), .slice pk ks.length ck, .slice a vs.length c] 29)).alloc (.cells #[.int .i64 0, .bool false, .bool false, .string ⟨#[]⟩, .int .i64 0, .string ⟨#[]⟩, .slice none 0 0, .slice none 0 0] 29) = w0 := ⟨_, rfl⟩
  have b0 : Below w.heap.size w w0 := by
    rw [← hw0]
    exact ((Below.refl _ w).alloc (Nat.le_refl _) _).alloc (by simp) _
  have z0 : w0.heap.size = w.heap.size + 2 := by rw [← hw0]; simp
  rw [hw0] at hA hB
  have HW := Lib.hid hw0
  clear hw0
  have cl1 := clone_any (l := n.dig) (by omega) (w := w0)
  have cl2 := fun wx => clone_any (l := s) (by omega) (w := wx)
  obtain ⟨c0, c1, c2, c3, c4, c5, c6, c7⟩ := eight hA
  have HCS := Lib.hid cS
  have HCV := Lib.hid cV
  have HC2 := Lib.hid cl2
  clear cS cV cl2
  go_enter Tryz.func53, Tryz.ntmps53
  go_wp2_with fail
  rw [HW.out]
  go_wp2_with fail
  refine cl1.mono ?_
  rintro e w1 ⟨rfl, k1⟩
  have b1 := b0.trans (k1.mono b0.size)
  have z1 := k1.size
  have hA1 := (k1.block _ (lt_of_heap hA)).trans hA
  have hB1 := (k1.block _ (lt_of_heap hB)).trans hB
  clear c0 c1 c2 c3 c4 c5 c6 c7 hA hB cl1 b0
  have e3 := cell_of hA1 3
  have f3 := free_of hA1 3
  have hA2 : (w1.setCell ⟨w.heap.size, 3, none⟩ (.string (txt n.dig))).heap[w.heap.size]? = some (.cells #[.int .i64 k, .bool b, .bool n.neg, .string (txt n.dig), .int .i64 n.exp, .string (txt s), .slice pk ks.length ck, .slice a vs.length c] 29 (0, 0)) := by simpa using set_of hA1 3 (.string (txt n.dig))
  have hB2 := (setc_other (W := w1) (g := w.heap.size) (i := 3) (k := w.heap.size + 1) (.string (txt n.dig)) (by omega)).trans hB1
  have b2 := b1.setCell (p := ⟨w.heap.size, 3, none⟩) (Nat.le_refl _) (.string (txt n.dig))
  have z2 : (w1.setCell ⟨w.heap.size, 3, none⟩ (.string (txt n.dig))).heap.size = w1.heap.size := by simp [World.setCell]
  obtain ⟨w2, hw2⟩ : ∃ w2, w1.setCell ⟨w.heap.size, 3, none⟩ (.string (txt n.dig)) = w2 := ⟨_, rfl⟩
  rw [hw2] at hA2 hB2 b2 z2
  obtain ⟨c0, c1, c2, c3, c4, c5, c6, c7⟩ := eight hA2
  go_wp2_with fail
  clear hw2 e3 f3
  refine (HC2.out w2).mono ?_
  rintro e w3 ⟨rfl, k3⟩
  have b3 := b2.trans (k3.mono b2.size)
  have hA3 := (k3.block _ (lt_of_heap hA2)).trans hA2
  have hB3 := (k3.block _ (lt_of_heap hB2)).trans hB2
  have z3 := k3.size
  clear c0 c1 c2 c3 c4 c5 c6 c7 hA1 hB1 hA2 hB2 b1 b2 HC2
  have e5 := cell_of hA3 5
  have f5 := free_of hA3 5
  have hA4 : (w3.setCell ⟨w.heap.size, 5, none⟩ (.string (txt s))).heap[w.heap.size]? = some (.cells #[.int .i64 k, .bool b, .bool n.neg, .string (txt n.dig), .int .i64 n.exp, .string (txt s), .slice pk ks.length ck, .slice a vs.length c] 29 (0, 0)) := by simpa using set_of hA3 5 (.string (txt s))
  have hB4 := (setc_other (W := w3) (g := w.heap.size) (i := 5) (k := w.heap.size + 1) (.string (txt s)) (by omega)).trans hB3
  have b4 := b3.setCell (p := ⟨w.heap.size, 5, none⟩) (Nat.le_refl _) (.string (txt s))
  have z4 : (w3.setCell ⟨w.heap.size, 5, none⟩ (.string (txt s))).heap.size = w3.heap.size := by simp [World.setCell]
  obtain ⟨w4, hw4⟩ : ∃ w4, w3.setCell ⟨w.heap.size, 5, none⟩ (.string (txt s)) = w4 := ⟨_, rfl⟩
  rw [hw4] at hA4 hB4 b4 z4
  obtain ⟨c0, c1, c2, c3, c4, c5, c6, c7⟩ := eight hA4
  go_wp2_with fail
  clear hw4 e5 f5
  refine (HCS.out w4 b4).mono ?_
  rintro e w5 ⟨⟨yk, rfl, hSK⟩, k5⟩
  have b5 := b4.trans (k5.mono b4.size)
  have hA5 := (k5.block _ (lt_of_heap hA4)).trans hA4
  have hB5 := (k5.block _ (lt_of_heap hB4)).trans hB4
  have z5 := k5.size
  have HSK := Lib.hid hSK
  obtain ⟨ak, bk, rfl, -⟩ := hSK
  clear c0 c1 c2 c3 c4 c5 c6 c7 hA3 hB3 hA4 hB4 b3 b4 HCS
  have e6 := cell_of hA5 6
  have f6 := free_of hA5 6
  have hA6 : (w5.setCell ⟨w.heap.size, 6, none⟩ (.slice ak ks.length bk)).heap[w.heap.size]? = some (.cells #[.int .i64 k, .bool b, .bool n.neg, .string (txt n.dig), .int .i64 n.exp, .string (txt s), .slice ak ks.length bk, .slice a vs.length c] 29 (0, 0)) := by simpa using set_of hA5 6 (.slice ak ks.length bk)
  have hO6 := fun q (hq : q ≠ w.heap.size) => setc_other (W := w5) (g := w.heap.size) (i := 6) (k := q) (.slice ak ks.length bk) hq
  have b6 := b5.setCell (p := ⟨w.heap.size, 6, none⟩) (Nat.le_refl _) (.slice ak ks.length bk)
  have z6 : (w5.setCell ⟨w.heap.size, 6, none⟩ (.slice ak ks.length bk)).heap.size = w5.heap.size := by simp [World.setCell]
  obtain ⟨w6, hw6⟩ : ∃ w6, w5.setCell ⟨w.heap.size, 6, none⟩ (.slice ak ks.length bk) = w6 := ⟨_, rfl⟩
  rw [hw6] at hA6 hO6 b6 z6
  have hB6 := (hO6 (w.heap.size + 1) (by omega)).trans hB5
  obtain ⟨c0, c1, c2, c3, c4, c5, c6, c7⟩ := eight hA6
  go_wp2_with fail
  clear hw6 e6 f6
  refine (HCV.out w6 b6).mono ?_
  rintro e w7 ⟨⟨yv, rfl, hSV⟩, k7⟩
  have b7 := b6.trans (k7.mono b6.size)
  have hA7 := (k7.block _ (lt_of_heap hA6)).trans hA6
  have hB7 := (k7.block _ (lt_of_heap hB6)).trans hB6
  have z7 := k7.size
  have HSV := Lib.hid hSV
  obtain ⟨av, bv, rfl, -⟩ := hSV
  clear c0 c1 c2 c3 c4 c5 c6 c7 hA5 hB5 hA6 hB6 b5 b6 HCV
  have e7 := cell_of hA7 7
  have f7 := free_of hA7 7
  have hA8 : (w7.setCell ⟨w.heap.size, 7, none⟩ (.slice av vs.length bv)).heap[w.heap.size]? = some (.cells #[.int .i64 k, .bool b, .bool n.neg, .string (txt n.dig), .int .i64 n.exp, .string (txt s), .slice ak ks.length bk, .slice av vs.length bv] 29 (0, 0)) := by simpa using set_of hA7 7 (.slice av vs.length bv)
  have hO8 := fun q (hq : q ≠ w.heap.size) => setc_other (W := w7) (g := w.heap.size) (i := 7) (k := q) (.slice av vs.length bv) hq
  have b8 := b7.setCell (p := ⟨w.heap.size, 7, none⟩) (Nat.le_refl _) (.slice av vs.length bv)
  have z8 : (w7.setCell ⟨w.heap.size, 7, none⟩ (.slice av vs.length bv)).heap.size = w7.heap.size := by simp [World.setCell]
  obtain ⟨w8, hw8⟩ : ∃ w8, w7.setCell ⟨w.heap.size, 7, none⟩ (.slice av vs.length bv) = w8 := ⟨_, rfl⟩
  rw [hw8] at hA8 hO8 b8 z8
  have hB8 := (hO8 (w.heap.size + 1) (by omega)).trans hB7
  obtain ⟨c0, c1, c2, c3, c4, c5, c6, c7⟩ := eight hA8
  obtain ⟨d0, d1, d2, d3, d4, d5, d6, d7⟩ := eight hB8
  have g0 := free_of hB8 0
  have g1 := free_of hB8 1
  have g2 := free_of hB8 2
  have g3 := free_of hB8 3
  have g4 := free_of hB8 4
  have g5 := free_of hB8 5
  have g6 := free_of hB8 6
  have g7 := free_of hB8 7
  have fin : Copied ⟨k, b, n, s, ks, vs⟩ w (.returned (.agg #[.int .i64 k, .bool b, .bool n.neg, .string (txt n.dig), .int .i64 n.exp, .string (txt s), .slice ak ks.length bk, .slice av vs.length bv])) (put8 w8 (w.heap.size + 1) 0 (.int .i64 k) (.bool b) (.bool n.neg) (.string (txt n.dig)) (.int .i64 n.exp) (.string (txt s)) (.slice ak ks.length bk) (.slice av vs.length bv)) := by
    have hl8 := lt_of_heap hB8
    refine ⟨⟨_, rfl, ?_⟩, put8_below b8 (by omega) _ _ _ _ _ _ _ _ _⟩
    have hK : SepK (put8 w8 (w.heap.size + 1) 0 (.int .i64 k) (.bool b) (.bool n.neg) (.string (txt n.dig)) (.int .i64 n.exp) (.string (txt s)) (.slice ak ks.length bk) (.slice av vs.length bv)) w.heap.size w5.heap.size (.slice ak ks.length bk) ks :=
      (SepK.keep HSK.out fun q h1 h2 => (put8_block (by omega) _ _ _ _ _ _ _ _).trans ((hO8 q (by omega)).trans ((k7.block _ (by omega)).trans (hO6 q (by omega))))).mono (by omega) (Nat.le_refl _)
    have hV := sepV_of (w' := put8 w8 (w.heap.size + 1) 0 (.int .i64 k) (.bool b) (.bool n.neg) (.string (txt n.dig)) (.int .i64 n.exp) (.string (txt s)) (.slice ak ks.length bk) (.slice av vs.length bv)) HSV.out (fun q h1 h2 => (put8_block (by omega) _ _ _ _ _ _ _ _).trans (hO8 q (by omega))) (Nat.le_refl _)
    rw [put8_size, z8, Sep]
    obtain ⟨av', bv', e, h1, h2, h3⟩ := hV
    injection e with e1 e2 e3
    subst e1; subst e3
    exact ⟨_, _, _, w6.heap.size, rfl, by omega, by omega, hK.mono (Nat.le_refl _) (by omega), h1, h2, h3⟩
  unfold put8 at fin
  have FIN := Lib.hid fin
  clear fin
  go_wp2_with fail
  clear hw8
  have h9 := set8_own hB8 (.int .i64 k) (.bool b) (.bool n.neg) (.string (txt n.dig)) (.int .i64 n.exp) (.string (txt s)) (.slice ak ks.length bk) (.slice av vs.length bv)
  obtain ⟨d0, d1, d2, d3, d4, d5, d6, d7⟩ := eight h9
  refine bodyPost_ret (v := .agg #[.int .i64 k, .bool b, .bool n.neg, .string (txt n.dig), .int .i64 n.exp, .string (txt s), .slice ak ks.length bk, .slice av vs.length bv]) (by simp [results, Tryz.results53, go_sem, d0, d1, d2, d3, d4, d5, d6, d7]) rfl ?_
  exact FIN.out
end Go.Proofs.YtlfbnfphocpgeaaGreatDoor.Tre
namespace Go.Proofs.YtlfbnfphocpgeaaGreatDoor.Tre
open Go.RowKit Kit Txt Go.Sort
open Num (Dec zero)
/-- A value's cells, by what they tell. -/
structure F8 where
  k : Int
  b : Bool
  n : Dec
  s : List UInt8
  pk : Option Addr
  lk : Nat
  ck : Nat
  a : Option Addr
  lv : Nat
  c : Nat
def F8.cells (f : F8) : List Value := [.int .i64 f.k, .bool f.b, .bool f.n.neg, .string (txt f.n.dig), .int .i64 f.n.exp, .string (txt f.s), .slice f.pk f.lk f.ck, .slice f.a f.lv f.c]
/-- A key with its kid's cells (and the value that they are to hold). -/
structure FRow where
  key : List UInt8
  f : F8
  val : Val
instance : Inhabited FRow := ⟨⟨[], ⟨0, false, zero, [], none, 0, 0, none, 0, 0⟩, none'⟩⟩
def encR (x : FRow) : List Value := .string (txt x.key) :: x.f.cells
theorem encR_len (x : FRow) : (encR x).length = 9 := rfl
theorem encR_one (x : FRow) : ∀ v ∈ encR x, v.oneCell' = true := by
  intro v hv
  simp [encR, F8.cells] at hv
  rcases hv with rfl | rfl | rfl | rfl | rfl | rfl | rfl | rfl | rfl <;> rfl
/-- Some draws on, and some blocks more. -/
def GD (W w : World) : Prop := ∃ q os, w = grow (W.drewN q) os
theorem GD.refl (W : World) : GD W W := ⟨0, #[], by simp [grow, World.drewN]⟩
theorem GD.trans {A B C : World} (h : GD A B) (k : GD B C) : GD A C := by
  obtain ⟨q, os, rfl⟩ := h
  obtain ⟨q', os', rfl⟩ := k
  exact ⟨q + q', os ++ os', by simp [grow, World.drewN, Nat.add_assoc, Array.append_assoc]⟩
theorem GD.drewN {W w : World} (h : GD W w) (n : Nat) : GD W (w.drewN n) := h.trans ⟨n, #[], by rw [grow_empty]⟩
theorem GD.alloc {W w : World} (h : GD W w) (o : Obj) : GD W (w.alloc o) := h.trans ⟨0, #[o], by rw [alloc_eq_grow]; rfl⟩
theorem GD.block {W w : World} (h : GD W w) {k : Nat} (hk : k < W.heap.size) : w.heap[k]? = W.heap[k]? := by
  obtain ⟨q, os, rfl⟩ := h
  show (W.heap ++ os)[k]? = _
  exact Array.getElem?_append_left hk
theorem GD.size {W w : World} (h : GD W w) : W.heap.size ≤ w.heap.size := by
  obtain ⟨q, os, rfl⟩ := h
  show _ ≤ (W.heap ++ os).size
  simp
theorem GD.cell {W w : World} (h : GD W w) {b i : Nat} {v : Value} (hc : W.cell? ⟨b, i, none⟩ = some v) : w.cell? ⟨b, i, none⟩ = some v := by
  have hb := World.block_lt_of_cell? _ _ hc
  unfold World.cell? at hc ⊢
  rw [h.block hb]
  exact hc
theorem GD.below {W w : World} (h : GD W w) : Below W.heap.size W w := by
  refine ⟨?_, ?_, ?_, h.size, fun k hk => h.block hk⟩ <;> (obtain ⟨q, os, rfl⟩ := h; rfl)
set_option maxRecDepth 100000 in
set_option maxHeartbeats 1000000 in
theorem so1_any (s : ByteArray) (v1 v2 v3 v4 v5 v6 v7 v8 : Value) (w : World) : Calls Tryz.prog 82 #[.agg #[.string s, v1, v2, v3, v4, v5, v6, v7, v8]] w fun e w' => e = .returned (.string s) ∧ GD w w' := by
  have hA := World.alloc_heap_new w (.cells #[.string s, v1, v2, v3, v4, v5, v6, v7, v8] 116)
  have c0 := cell_of hA 0
  have hG := (GD.refl w).alloc (.cells #[.string s, v1, v2, v3, v4, v5, v6, v7, v8] 116)
  go_enter Tryz.func82, Tryz.ntmps82
  go_wp2_with fail
  go_ret
  exact ⟨rfl, hG⟩
set_option maxRecDepth 100000 in
set_option maxHeartbeats 4000000 in
theorem cmp_any (x y : FRow) (B : Nat) (W : World) (hB : W.cell? ⟨B, 0, none⟩ = some (.func (.func 82) #[] #[])) :
    Calls Tryz.prog 117 #[.agg (encR x).toArray, .agg (encR y).toArray, .pointer (some ⟨B, 0, none⟩)] W fun e w' => e = .returned (.int .i64 (Lib.compareBytes x.key y.key)) ∧ GD W w' := by
  show Calls Tryz.prog 117 #[.agg #[.string (txt x.key), .int .i64 x.f.k, .bool x.f.b, .bool x.f.n.neg, .string (txt x.f.n.dig), .int .i64 x.f.n.exp, .string (txt x.f.s), .slice x.f.pk x.f.lk x.f.ck, .slice x.f.a x.f.lv x.f.c], .agg #[.string (txt y.key), .int .i64 y.f.k, .bool y.f.b, .bool y.f.n.neg, .string (txt y.f.n.dig), .int .i64 y.f.n.exp, .string (txt y.f.s), .slice y.f.pk y.f.lk y.f.ck, .slice y.f.a y.f.lv y.f.c], .pointer (some ⟨B, 0, none⟩)] W _
  have hA0 := new_of (World.alloc_heap_new W (.cells #[.string (txt x.key), .int .i64 x.f.k, .bool x.f.b, .bool x.f.n.neg, .string (txt x.f.n.dig), .int .i64 x.f.n.exp, .string (txt x.f.s), .slice x.f.pk x.f.lk x.f.ck, .slice x.f.a x.f.lv x.f.c] 116)) (.cells #[.string (txt y.key), .int .i64 y.f.k, .bool y.f.b, .bool y.f.n.neg, .string (txt y.f.n.dig), .int .i64 y.f.n.exp, .string (txt y.f.s), .slice y.f.pk y.f.lk y.f.ck, .slice y.f.a y.f.lv y.f.c] 116)
  have hB0 := World.alloc_heap_new (W.alloc (.cells #[.string (txt x.key), .int .i64 x.f.k, .bool x.f.b, .bool x.f.n.neg, .string (txt x.f.n.dig), .int .i64 x.f.n.exp, .string (txt x.f.s), .slice x.f.pk x.f.lk x.f.ck, .slice x.f.a x.f.lv x.f.c] 116)) (.cells #[.string (txt y.key), .int .i64 y.f.k, .bool y.f.b, .bool y.f.n.neg, .string (txt y.f.n.dig), .int .i64 y.f.n.exp, .string (txt y.f.s), .slice y.f.pk y.f.lk y.f.ck, .slice y.f.a y.f.lv y.f.c] 116)
  rw [World.size_alloc] at hB0
  have hG0 := ((GD.refl W).alloc (.cells #[.string (txt x.key), .int .i64 x.f.k, .bool x.f.b, .bool x.f.n.neg, .string (txt x.f.n.dig), .int .i64 x.f.n.exp, .string (txt x.f.s), .slice x.f.pk x.f.lk x.f.ck, .slice x.f.a x.f.lv x.f.c] 116)).alloc (.cells #[.string (txt y.key), .int .i64 y.f.k, .bool y.f.b, .bool y.f.n.neg, .string (txt y.f.n.dig), .int .i64 y.f.n.exp, .string (txt y.f.s), .slice y.f.pk y.f.lk y.f.ck, .slice y.f.a y.f.lv y.f.c] 116)
  have hF0 := hG0.cell hB
  have hc := fun wx => Tryz.strings_Compare (txt x.key) (txt y.key) wx
  simp only [txt_list] at hc
  generalize Lib.compareBytes x.key y.key = z at *
  obtain ⟨W0, hW0⟩ : ∃ W0, (W.alloc (.cells #[.string (txt x.key), .int .i64 x.f.k, .bool x.f.b, .bool x.f.n.neg, .string (txt x.f.n.dig), .int .i64 x.f.n.exp, .string (txt x.f.s), .slice x.f.pk x.f.lk x.f.ck, .slice x.f.a x.f.lv x.f.c] 116)).alloc (.cells #[.string (txt y.key), .int .i64 y.f.k, .bool y.f.b, .bool y.f.n.neg, .string (txt y.f.n.dig), .int .i64 y.f.n.exp, .string (txt y.f.s), .slice y.f.pk y.f.lk y.f.ck, .slice y.f.a y.f.lv y.f.c] 116) = W0 := ⟨_, rfl⟩
  rw [hW0] at hA0 hB0 hG0 hF0
  have a0 := cell_of hA0 0
  have a1 := cell_of hA0 1
  have a2 := cell_of hA0 2
  have a3 := cell_of hA0 3
  have a4 := cell_of hA0 4
  have a5 := cell_of hA0 5
  have a6 := cell_of hA0 6
  have a7 := cell_of hA0 7
  have a8 := cell_of hA0 8
  have b0 := cell_of hB0 0
  have b1 := cell_of hB0 1
  have b2 := cell_of hB0 2
  have b3 := cell_of hB0 3
  have b4 := cell_of hB0 4
  have b5 := cell_of hB0 5
  have b6 := cell_of hB0 6
  have b7 := cell_of hB0 7
  have b8 := cell_of hB0 8
  simp only [List.getElem?_toArray, List.getElem?_cons_zero, List.getElem?_cons_succ] at a0 a1 a2 a3 a4 a5 a6 a7 a8 b0 b1 b2 b3 b4 b5 b6 b7 b8
  generalize txt x.key = kx at *
  generalize txt y.key = ky at *
  clear hA0 hB0
  go_enter Tryz.func117, Tryz.ntmps117
  go_wp2_with fail
  clear hW0
  have hG1 : GD W W0.drew := hG0.drewN 1
  go_region_held3 (fun wx => wx.cell? ⟨B, 0, none⟩ = some (.func (.func 82) #[] #[]) ∧ wx.cell? ⟨W.heap.size, 0, none⟩ = some (.string kx) ∧ wx.cell? ⟨W.heap.size, 1, none⟩ = some (.int .i64 x.f.k) ∧ wx.cell? ⟨W.heap.size, 2, none⟩ = some (.bool x.f.b) ∧ wx.cell? ⟨W.heap.size, 3, none⟩ = some (.bool x.f.n.neg) ∧ wx.cell? ⟨W.heap.size, 4, none⟩ = some (.string (txt x.f.n.dig)) ∧ wx.cell? ⟨W.heap.size, 5, none⟩ = some (.int .i64 x.f.n.exp) ∧ wx.cell? ⟨W.heap.size, 6, none⟩ = some (.string (txt x.f.s)) ∧ wx.cell? ⟨W.heap.size, 7, none⟩ = some (.slice x.f.pk x.f.lk x.f.ck) ∧ wx.cell? ⟨W.heap.size, 8, none⟩ = some (.slice x.f.a x.f.lv x.f.c) ∧ wx.cell? ⟨W.heap.size + 1, 0, none⟩ = some (.string ky) ∧ wx.cell? ⟨W.heap.size + 1, 1, none⟩ = some (.int .i64 y.f.k) ∧ wx.cell? ⟨W.heap.size + 1, 2, none⟩ = some (.bool y.f.b) ∧ wx.cell? ⟨W.heap.size + 1, 3, none⟩ = some (.bool y.f.n.neg) ∧ wx.cell? ⟨W.heap.size + 1, 4, none⟩ = some (.string (txt y.f.n.dig)) ∧ wx.cell? ⟨W.heap.size + 1, 5, none⟩ = some (.int .i64 y.f.n.exp) ∧ wx.cell? ⟨W.heap.size + 1, 6, none⟩ = some (.string (txt y.f.s)) ∧ wx.cell? ⟨W.heap.size + 1, 7, none⟩ = some (.slice y.f.pk y.f.lk y.f.ck) ∧ wx.cell? ⟨W.heap.size + 1, 8, none⟩ = some (.slice y.f.a y.f.lv y.f.c) ∧ GD W wx)
    (first | assumption | (exact ⟨by assumption, by assumption⟩) | (refine ⟨?_, ?_⟩ <;> first | assumption | go_keep) | go_keep)
    (first | (go_at_call 82; refine (so1_any _ _ _ _ _ _ _ _ _ _).mono ?_; rintro e wz ⟨rfl, hg⟩; have m0 : wz.cell? ⟨B, 0, none⟩ = some (.func (.func 82) #[] #[]) := hg.cell (by assumption); have m1 : wz.cell? ⟨W.heap.size, 0, none⟩ = some (.string kx) := hg.cell (by assumption); have m2 : wz.cell? ⟨W.heap.size, 1, none⟩ = some (.int .i64 x.f.k) := hg.cell (by assumption); have m3 : wz.cell? ⟨W.heap.size, 2, none⟩ = some (.bool x.f.b) := hg.cell (by assumption); have m4 : wz.cell? ⟨W.heap.size, 3, none⟩ = some (.bool x.f.n.neg) := hg.cell (by assumption); have m5 : wz.cell? ⟨W.heap.size, 4, none⟩ = some (.string (txt x.f.n.dig)) := hg.cell (by assumption); have m6 : wz.cell? ⟨W.heap.size, 5, none⟩ = some (.int .i64 x.f.n.exp) := hg.cell (by assumption); have m7 : wz.cell? ⟨W.heap.size, 6, none⟩ = some (.string (txt x.f.s)) := hg.cell (by assumption); have m8 : wz.cell? ⟨W.heap.size, 7, none⟩ = some (.slice x.f.pk x.f.lk x.f.ck) := hg.cell (by assumption); have m9 : wz.cell? ⟨W.heap.size, 8, none⟩ = some (.slice x.f.a x.f.lv x.f.c) := hg.cell (by assumption); have m10 : wz.cell? ⟨W.heap.size + 1, 0, none⟩ = some (.string ky) := hg.cell (by assumption); have m11 : wz.cell? ⟨W.heap.size + 1, 1, none⟩ = some (.int .i64 y.f.k) := hg.cell (by assumption); have m12 : wz.cell? ⟨W.heap.size + 1, 2, none⟩ = some (.bool y.f.b) := hg.cell (by assumption); have m13 : wz.cell? ⟨W.heap.size + 1, 3, none⟩ = some (.bool y.f.n.neg) := hg.cell (by assumption); have m14 : wz.cell? ⟨W.heap.size + 1, 4, none⟩ = some (.string (txt y.f.n.dig)) := hg.cell (by assumption); have m15 : wz.cell? ⟨W.heap.size + 1, 5, none⟩ = some (.int .i64 y.f.n.exp) := hg.cell (by assumption); have m16 : wz.cell? ⟨W.heap.size + 1, 6, none⟩ = some (.string (txt y.f.s)) := hg.cell (by assumption); have m17 : wz.cell? ⟨W.heap.size + 1, 7, none⟩ = some (.slice y.f.pk y.f.lk y.f.ck) := hg.cell (by assumption); have m18 : wz.cell? ⟨W.heap.size + 1, 8, none⟩ = some (.slice y.f.a y.f.lv y.f.c) := hg.cell (by assumption); have m19 : GD W wz := GD.trans (by assumption) hg) | (go_at_call 118; refine (hc _).mono ?_; rintro e wz ⟨rfl, rfl⟩))
  all_goals
    go_wp2_with fail
    go_ret
    exact ⟨rfl, by assumption⟩
/-- compareBytes and less are one. -/
theorem compare_less : ∀ a b : List UInt8, Lib.compareBytes a b < 0 ↔ less a b = true
  | [], [] => by simp [Lib.compareBytes, less, Op.bytesLess]
  | [], _ :: _ => by simp [Lib.compareBytes, less, Op.bytesLess]
  | _ :: _, [] => by simp [Lib.compareBytes, less, Op.bytesLess]
  | x :: a, y :: b => by
    have ih := compare_less a b
    unfold less at ih ⊢
    rw [Lib.compareBytes]
    simp only [Op.bytesLess, Bool.or_eq_true, Bool.and_eq_true, decide_eq_true_eq, beq_iff_eq]
    by_cases h1 : x < y
    · simp [h1]
    · rw [if_neg h1]
      by_cases h2 : y < x
      · rw [if_pos h2]
        have h3 : x ≠ y := fun e => by subst e; exact h1 h2
        simp [h1, h3]
      · rw [if_neg h2, ih]
        have h3 : x = y := UInt8.le_antisymm (UInt8.not_lt.1 h2) (UInt8.not_lt.1 h1)
        simp [h3]
def cfR (x y : FRow) : Int := Lib.compareBytes x.key y.key
theorem ltR (x y : FRow) : ltOf cfR x y = less x.key y.key := by
  unfold ltOf cfR
  by_cases h : Lib.compareBytes x.key y.key < 0
  · rw [decide_eq_true h, (compare_less _ _).1 h]
  · rw [decide_eq_false h]
    cases hl : less x.key y.key with
    | false => rfl
    | true => exact absurd ((compare_less _ _).2 hl) h
theorem swoR : SWO (ltOf cfR) where
  irrefl x := by rw [ltR]; exact less_self _
  trans x y z h1 h2 := by rw [ltR] at *; exact less_trans h1 h2
  ntrans x y z h1 h2 := by
    rw [ltR] at *
    cases h : less x.key z.key with
    | false => rfl
    | true =>
      by_cases e : y.key = z.key
      · rw [e] at h1
        rw [h1] at h
        cases h
      · have h3 := less_total (a := y.key) (b := z.key) e h2
        have h4 := less_trans h h3
        rw [h1] at h4
        cases h4
/-- What rise leaves: a row of the same ones, rising. -/
def Risen (d : Array FRow) (blk : Nat) (w : World) (e : Ending) (w' : World) : Prop :=
  e = .returned (.tuple #[]) ∧ (∃ d' : Array FRow, d'.size = d.size ∧ d'.toList.Perm d.toList ∧ d'.toList.Pairwise (fun x y => less y.key x.key = false) ∧ HoldsK encR 9 w' blk 0 d') ∧ w.grownBy w' (some blk)
theorem sorted_pairwise {d : Array FRow} (h : SortedIn (ltOf cfR) 0 d.size d) : d.toList.Pairwise (fun x y => less y.key x.key = false) := by
  rw [List.pairwise_iff_getElem]
  intro i j hi hj hij
  have h1 := h i j (Nat.zero_le _) hij (by simpa using hj)
  rw [ltR] at h1
  rw [getElem!_pos d j (by simpa using hj), getElem!_pos d i (by simpa using hi)] at h1
  simpa using h1
theorem perm_list {d d' : Array FRow} (h : PermIn 0 d.size d d') : d'.size = d.size ∧ d'.toList.Perm d.toList := by
  obtain ⟨hs, _, hp⟩ := h
  refine ⟨hs, ?_⟩
  have e1 : d'.extract 0 d.size = d' := by rw [← hs]; exact Array.extract_size
  have e2 : d.extract 0 d.size = d := Array.extract_size
  rwa [e1, e2] at hp
set_option maxRecDepth 100000 in
set_option maxHeartbeats 4000000 in
theorem rise_any {d : Array FRow} {blk cap : Nat} {w : World} (hH : HoldsK encR 9 w blk 0 d) (hblk : blk < w.heap.size) (hsz : d.size < 1000000) :
    Calls Tryz.prog 81 #[.slice (some ⟨blk, 0, none⟩) d.size cap, .func (.func 82) #[] #[]] w (Risen d blk w) := by
  have hN := World.alloc_heap_new w (.cells #[.func (.func 82) #[] #[]] 118)
  have eg : ∀ args w, (callFunc 117 args).run Tryz.prog w = .ok (.enter 117 args) w := enters_of Tryz.func117 (by kernel_rfl) rfl
  have hW1 : HoldsK encR 9 (w.alloc (.cells #[.func (.func 82) #[] #[]] 118)) blk 0 d := by
    rw [alloc_eq_grow]
    exact holdsK_grow encR 9 w _ blk 0 d hblk hH
  have hcmp : CmpLays Tryz.prog 117 #[.pointer (some ⟨w.heap.size, 0, none⟩)] encR 9 cfR blk 0 d.size (w.alloc (.cells #[.func (.func 82) #[] #[]] 118)) := by
    intro m os dk hdk x y
    refine (cmp_any x y w.heap.size _ ?_).mono ?_
    · unfold sortWorldK
      exact GD.cell (W := putRowK encR 9 (Sort.ahead (w.alloc (.cells #[.func (.func 82) #[] #[]] 118)) m) blk 0 dk) ⟨0, os, rfl⟩ ((cell?_putRowK_other encR 9 _ blk 0 dk ⟨w.heap.size, 0, none⟩ (by show w.heap.size ≠ blk; omega)).trans (cell_of hN 0))
    · rintro e w' ⟨he, hg⟩
      exact ⟨he, hg⟩
  have hcon := AnyQ.slices_SortFunc Tryz.sortf 9 Tryz.isAgg116 Tryz.sizeOf116 encR encR_len encR_one cfR swoR 117 #[.pointer (some ⟨w.heap.size, 0, none⟩)] blk 0 cap d (w.alloc (.cells #[.func (.func 82) #[] #[]] 118)) eg hcmp hW1 (by simp; omega) (by omega)
  change Calls Tryz.prog 116 _ _ _ at hcon
  have HC := Lib.hid hcon
  have HW1 := Lib.hid hW1
  clear hcon hcmp hW1 hH
  go_enter Tryz.func81, Tryz.ntmps81
  go_wp2_with fail
  refine HC.out.mono ?_
  rintro e w1 ⟨rfl, d', q, os, hp, hs, hw1⟩
  obtain ⟨hz, hpl⟩ := perm_list hp
  have hrow : HoldsK encR 9 w1 blk 0 d' := by
    rw [hw1]
    unfold sortWorldK
    refine holdsK_grow encR 9 _ os blk 0 d' ?_ (holdsK_putRowK encR 9 _ blk 0 d d' (holdsK_ahead encR 9 _ q blk 0 d HW1.out) hz)
    show blk < (Array.modify _ _ _).size
    rw [Array.size_modify]
    show blk < (w.alloc _).heap.size
    simp
    omega
  have hgr : w.grownBy w1 (some blk) := by
    suffices h2 : (w.alloc (.cells #[.func (.func 82) #[] #[]] 118)).grownBy w1 (some blk) from
      (World.grownBy_alloc w (.cells #[.func (.func 82) #[] #[]] 118) (some blk)).andThen h2 (fun j e => by cases e; exact .inr rfl)
    rw [hw1]
    refine ⟨rfl, rfl, rfl, ?_, fun k hk hne => ?_⟩
    · show _ ≤ (Array.modify _ _ _ ++ os).size
      simp
    · show (Array.modify _ _ _ ++ os)[k]? = _
      rw [Array.getElem?_append_left (by rw [Array.size_modify]; exact hk), Array.getElem?_modify]
      have : blk ≠ k := fun e => hne (by rw [e])
      simp [this]
  have hsd : d'.toList.Pairwise (fun x y => less y.key x.key = false) := sorted_pairwise (by rw [hz]; exact hs)
  have FIN := Lib.hid (show Risen d blk w (.returned (.tuple #[])) w1 from ⟨rfl, ⟨d', hz, hpl, hsd, hrow⟩, hgr⟩)
  clear hw1 hz hpl hrow hgr hsd hp hs
  go_wp2_with fail
  go_end0
  exact FIN.out
end Go.Proofs.YtlfbnfphocpgeaaGreatDoor.Tre
namespace Go.Proofs.YtlfbnfphocpgeaaGreatDoor.Tre
open Go.RowKit Kit Txt Go.Sort
open Num (Dec zero)
theorem sep_f8 {w : World} {lo hi : Nat} {cs : List Value} {v : Val} (h : Sep w lo hi cs v) : ∃ f : F8, cs = f.cells := by
  obtain ⟨k, i, n, s, ks, vs⟩ := v
  rw [Sep] at h
  obtain ⟨uk, a, c, p, rfl, -, -, ⟨pk, ck, rfl, -⟩, -⟩ := h
  exact ⟨⟨k, i, n, s, pk, ks.length, ck, a, vs.length, c⟩, rfl⟩
/-- The kids' intervals. -/
theorem Seps.bounds {w : World} {g : Nat} : ∀ {vs : List Val} {lo hi off : Nat}, Seps w lo hi g off vs → ∃ (bnd : Nat → Nat) (fr : Nat → F8), lo ≤ bnd 0 ∧ (∀ i, i < vs.length → bnd i ≤ bnd (i + 1)) ∧ bnd vs.length ≤ hi ∧
    ∀ (i : Nat) (v : Val), vs[i]? = some v → At8 w g (off + i * 8) (fr i).cells ∧ Sep w (bnd i) (bnd (i + 1)) (fr i).cells v
  | [], lo, hi, off, h => by
    rw [Seps] at h
    exact ⟨fun _ => lo, fun _ => ⟨0, false, zero, [], none, 0, 0, none, 0, 0⟩, Nat.le_refl _, fun i hi => absurd hi (Nat.not_lt_zero _), h, fun i v hv => by simp at hv⟩
  | x :: r, lo, hi, off, h => by
    rw [Seps] at h
    obtain ⟨m, h1, ⟨cs, h8, hv⟩, hr⟩ := h
    obtain ⟨f, rfl⟩ := sep_f8 hv
    obtain ⟨bnd, fr, e1, e2, e3, e4⟩ := Seps.bounds hr
    refine ⟨fun i => match i with | 0 => lo | i + 1 => bnd i, fun i => match i with | 0 => f | i + 1 => fr i, Nat.le_refl _, fun i hi => ?_, e3, fun i v hv2 => ?_⟩
    · rcases i with _ | i
      · exact Nat.le_trans h1 e1
      · exact e2 i (by simpa using hi)
    · rcases i with _ | i
      · simp at hv2
        subst hv2
        exact ⟨by simpa using h8, hv.mono e1⟩
      · have := e4 i v (by simpa using hv2)
        exact ⟨by rw [show off + (i + 1) * 8 = off + 8 + i * 8 by omega]; exact this.1, this.2⟩
theorem bnd_le {bnd : Nat → Nat} {n : Nat} (h : ∀ i, i < n → bnd i ≤ bnd (i + 1)) : ∀ {j i : Nat}, i ≤ j → j ≤ n → bnd i ≤ bnd j
  | 0, i, hij, _ => by
    have : i = 0 := by omega
    subst this
    exact Nat.le_refl _
  | j + 1, i, hij, hj => by
    by_cases e : i = j + 1
    · subst e
      exact Nat.le_refl _
    · exact Nat.le_trans (bnd_le h (j := j) (i := i) (by omega) (by omega)) (h j (by omega))
/-- A step that turns the interval alone. -/
def Turn (lo hi : Nat) (w w' : World) : Prop := Below lo w w' ∧ ∀ k, hi ≤ k → k < w.heap.size → w'.heap[k]? = w.heap[k]?
theorem Turn.refl (lo hi : Nat) (w : World) : Turn lo hi w w := ⟨Below.refl _ _, fun _ _ _ => rfl⟩
theorem Turn.trans {lo hi : Nat} {a b c : World} (h : Turn lo hi a b) (k : Turn lo hi b c) : Turn lo hi a c := ⟨h.1.trans k.1, fun j h1 h2 => (k.2 j h1 (Nat.lt_of_lt_of_le h2 h.1.size)).trans (h.2 j h1 h2)⟩
theorem Turn.of_below {lo hi : Nat} {a b : World} (h : Below a.heap.size a b) (hl : lo ≤ a.heap.size) : Turn lo hi a b := ⟨h.mono hl, fun j _ h2 => h.block j h2⟩
theorem Turn.wide {lo hi lo' hi' : Nat} {a b : World} (h : Turn lo hi a b) (hl : lo' ≤ lo) (hh : hi ≤ hi') : Turn lo' hi' a b := ⟨h.1.mono hl, fun j h1 h2 => h.2 j (Nat.le_trans hh h1) h2⟩
theorem F8.at {w : World} {g off : Nat} {f : F8} (h : At8 w g off f.cells) :
    w.cell? ⟨g, off, none⟩ = some (.int .i64 f.k) ∧ w.cell? ⟨g, off + 1, none⟩ = some (.bool f.b) ∧ w.cell? ⟨g, off + 2, none⟩ = some (.bool f.n.neg) ∧ w.cell? ⟨g, off + 3, none⟩ = some (.string (txt f.n.dig)) ∧
    w.cell? ⟨g, off + 4, none⟩ = some (.int .i64 f.n.exp) ∧ w.cell? ⟨g, off + 5, none⟩ = some (.string (txt f.s)) ∧ w.cell? ⟨g, off + 6, none⟩ = some (.slice f.pk f.lk f.ck) ∧ w.cell? ⟨g, off + 7, none⟩ = some (.slice f.a f.lv f.c) :=
  ⟨h.2 0 (by omega), h.2 1 (by omega), h.2 2 (by omega), h.2 3 (by omega), h.2 4 (by omega), h.2 5 (by omega), h.2 6 (by omega), h.2 7 (by omega)⟩
theorem infoFld : (Tryz.prog.info? 116).map (fun i => (i.zero.isSome, i.size, i.bytes)) = some (true, 9, 128) := by kernel_rfl
/-- 'make' of a row of fields. -/
theorem make_fld {n : Nat} (hn : n < 1000000) (w : World) : ∃ arr : Array Value, arr.size = n * 9 ∧ (Instr.makeSlice 114 (.int .i64 (n : Int)) (.int .i64 (n : Int))).run Tryz.prog w = .ok (.slice (some ⟨w.heap.size, 0, none⟩) n n) (w.alloc (.cells arr 116)) := by
  obtain ⟨i, hi, hzz⟩ := Option.map_eq_some_iff.1 infoFld
  simp only [Prod.mk.injEq] at hzz
  obtain ⟨hz, hs, hb⟩ := hzz
  obtain ⟨z, hz⟩ := Option.isSome_iff_exists.1 hz
  have hr := run_make (P := Tryz.prog) w 114 116 i _ Tryz.underlying114 hi hz .i64 .i64 n n (by omega) (by omega) (by rw [hb]; omega) (by omega)
  simp only [Int.toNat_natCast] at hr
  exact ⟨_, by rw [size_madeCells, hs], hr⟩
/-- A field is stored at a place. -/
def put9 (W : World) (g o : Nat) (u a b c d e f x y : Value) : World :=
  ((((((((W.setCell ⟨g, o, none⟩ u).setCell ⟨g, o + 1, none⟩ a).setCell ⟨g, o + 2, none⟩ b).setCell ⟨g, o + 3, none⟩ c).setCell ⟨g, o + 4, none⟩ d).setCell ⟨g, o + 5, none⟩ e).setCell ⟨g, o + 6, none⟩ f).setCell ⟨g, o + 7, none⟩ x).setCell ⟨g, o + 8, none⟩ y
theorem put9_eq (W : World) (g o : Nat) (u a b c d e f x y : Value) : put9 W g o u a b c d e f x y = put8 (W.setCell ⟨g, o, none⟩ u) g (o + 1) a b c d e f x y := rfl
theorem put9_own {W : World} {g o : Nat} {arr : Array Value} {t : TypeId} {fr : Nat × Nat} (h : W.heap[g]? = some (.cells arr t fr)) (u a b c d e f x y : Value) : ∃ arr' : Array Value, arr'.size = arr.size ∧ (put9 W g o u a b c d e f x y).heap[g]? = some (.cells arr' t fr) := by
  obtain ⟨arr', h1, h2⟩ := put8_own (set_of h o u) a b c d e f x y (o := o + 1)
  exact ⟨arr', by rw [h1, Array.size_setIfInBounds], h2⟩
theorem put9_cell {W : World} {g o i : Nat} (hi : i < o ∨ o + 9 ≤ i) (u a b c d e f x y : Value) : (put9 W g o u a b c d e f x y).cell? ⟨g, i, none⟩ = W.cell? ⟨g, i, none⟩ := by
  rw [put9_eq, put8_cell (by omega), World.cell?_setCell_other _ _ _ _ (show (⟨g, o, none⟩ : Addr) ≠ ⟨g, i, none⟩ from fun e => by injection e with _ e _; omega)]
theorem put9_at {W : World} {g o : Nat} {arr : Array Value} {t : TypeId} {fr : Nat × Nat} (h : W.heap[g]? = some (.cells arr t fr)) (ho : o + 9 ≤ arr.size) (u a b c d e f x y : Value) : ∀ j, j < 9 → (put9 W g o u a b c d e f x y).cell? ⟨g, o + j, none⟩ = [u, a, b, c, d, e, f, x, y][j]? := by
  intro j hj
  have h1 := set_of h o u
  rcases j with _ | j
  · rw [Nat.add_zero, put9_eq, put8_cell (.inl (by omega)), cell_of h1, Array.getElem?_setIfInBounds_self_of_lt (by omega)]
    rfl
  · have := (put8_at h1 (o := o + 1) (by rw [Array.size_setIfInBounds]; omega) a b c d e f x y).2 j (by omega)
    rw [put9_eq, show o + (j + 1) = o + 1 + j by omega, this]
    rfl
theorem put9_below {N : Nat} {w W : World} {g : Nat} (h : Below N w W) (hg : N ≤ g) (o : Nat) (u a b c d e f x y : Value) : Below N w (put9 W g o u a b c d e f x y) := by
  rw [put9_eq]
  exact put8_below (h.setCell (p := ⟨g, o, none⟩) hg u) hg _ _ _ _ _ _ _ _ _
/-- The nine cells of a block from a place on. -/
theorem block9 {W : World} {g o : Nat} {arr : Array Value} {t : TypeId} {fr : Nat × Nat} (h : W.heap[g]? = some (.cells arr t fr)) (ho : o + 9 ≤ arr.size) : ∃ z0 z1 z2 z3 z4 z5 z6 z7 z8 : Value, W.cell? ⟨g, o, none⟩ = some z0 ∧ W.cell? ⟨g, o + 1, none⟩ = some z1 ∧ W.cell? ⟨g, o + 2, none⟩ = some z2 ∧ W.cell? ⟨g, o + 3, none⟩ = some z3 ∧ W.cell? ⟨g, o + 4, none⟩ = some z4 ∧ W.cell? ⟨g, o + 5, none⟩ = some z5 ∧ W.cell? ⟨g, o + 6, none⟩ = some z6 ∧ W.cell? ⟨g, o + 7, none⟩ = some z7 ∧ W.cell? ⟨g, o + 8, none⟩ = some z8 := by
  refine ⟨arr[o], arr[o + 1], arr[o + 2], arr[o + 3], arr[o + 4], arr[o + 5], arr[o + 6], arr[o + 7], arr[o + 8], ?_⟩
  refine ⟨?_, ?_, ?_, ?_, ?_, ?_, ?_, ?_, ?_⟩
  all_goals rw [cell_of h]; exact Array.getElem?_eq_getElem _
/-- The row of fields that lies in a block, as the library's sort takes it. -/
theorem holdsK_of {w : World} {g n : Nat} {d : Array FRow} (hn : d.size = n) (hb : Blk w g) (h : ∀ i, i < n → ∀ t, t < 9 → w.cell? ⟨g, i * 9 + t, none⟩ = (encR d[i]!)[t]?) : HoldsK encR 9 w g 0 d := by
  intro j hj
  have hj' : j < d.size * 9 := by simpa using hj
  refine ⟨?_, hb.free _⟩
  rw [get_flatK _ _ _ _ hj', Nat.zero_add]
  have e := h (j / 9) (by omega) (j % 9) (by omega)
  rw [show j / 9 * 9 + j % 9 = j by omega] at e
  have hl : (encR d[j / 9]!).length = 9 := rfl
  generalize encR d[j / 9]! = L at *
  have hlt : j % 9 < L.length := by omega
  rw [e, List.getElem?_eq_getElem hlt, getElem!_pos L (j % 9) hlt]
  rfl
/-- What is sorted and rises is the one sorted row. -/
theorem rows_of {ks : List (List UInt8)} {vs : List Val} {l d : List FRow} (hl : ks.length = vs.length) (hn : ks.Nodup) (hd : d.map (fun x => (x.key, x.val)) = ks.zip (sorts vs)) (hp : l.Perm d) (hs : l.Pairwise (fun x y => less y.key x.key = false)) : l.map (fun x => (x.key, x.val)) = rows ks vs := by
  have hp2 : (l.map (fun x => (x.key, x.val))).Perm (ks.zip (sorts vs)) := by
    rw [← hd]
    exact hp.map _
  have hks : ((ks.zip (sorts vs)).map (·.1)) = ks := zip_map_fst (by rw [sorts_len]; exact hl)
  have hnd : (l.map (·.key)).Nodup := by
    have h1 := (hp2.map (·.1)).nodup_iff
    rw [hks] at h1
    have h2 := h1.2 hn
    rwa [List.map_map] at h2
  refine rises_one ?_ (rows_rises hl hn) (hp2.trans (sortP_perm _).symm)
  unfold Rises
  rw [List.pairwise_map]
  have h3 : l.Pairwise (fun x y => x.key ≠ y.key) := by
    have := hnd
    unfold List.Nodup at this
    rwa [List.pairwise_map] at this
  refine (hs.and h3).imp ?_
  rintro x y ⟨h1, h2⟩
  cases h : less x.key y.key with
  | true => rfl
  | false => rw [less_total h2 h] at h1; cases h1
/-- The fields that are to be sorted. -/
def fld (ks : List (List UInt8)) (vs : List Val) (fr : Nat → F8) (i : Nat) : FRow := ⟨ks.getD i [], fr i, sort (vs.getD i none')⟩
theorem fld_zip {ks : List (List UInt8)} {vs : List Val} (fr : Nat → F8) (hl : ks.length = vs.length) : ((List.range ks.length).map (fld ks vs fr)).map (fun x => (x.key, x.val)) = ks.zip (sorts vs) := by
  apply List.ext_getElem
  · simp [sorts_len, hl]
  · intro i h1 h2
    have h3 : i < ks.length := by simpa using h1
    have h4 : i < vs.length := by omega
    simp only [List.getElem_map, List.getElem_range, fld, List.getElem_zip, sorts_map]
    rw [List.getD_eq_getElem?_getD, List.getElem?_eq_getElem h3, List.getD_eq_getElem?_getD, List.getElem?_eq_getElem h4]
    rfl
theorem holdP_mk {X : Nat → Prop} {w : World} {k : Int} {b : Bool} {n : Dec} {s : List UInt8} {ak a : Option Addr} {ck c lk lv : Nat} {K : List (List UInt8)} {V : List Val} (hK : K.length = lk) (hV : V.length = lv) (h1 : KsP X w (.slice ak lk ck) K) (h2 : lv ≤ c) (h3 : c ≤ 9223372036854775807)
    (h4 : V = [] ∨ ∃ g, a = some ⟨g, 0, none⟩ ∧ X g ∧ g < w.heap.size ∧ HoldsP X w g 0 V) : HoldP X w (cellsV k b n s (.slice ak lk ck) (.slice a lv c)) ⟨k, b, n, s, K, V⟩ := by
  subst hK
  subst hV
  rw [HoldP]
  exact ⟨_, a, c, rfl, h1, h2, h3, h4.imp id fun ⟨g, ha, hX, hg, hx⟩ => ⟨g, 0, ha, hX, hg, hx⟩⟩
theorem sorted_list {X : Nat → Prop} {w : World} {k : Int} {b : Bool} {n : Dec} {s : List UInt8} {ak a : Option Addr} {ck c : Nat} {vs : List Val} {fr : Nat → F8} {g : Nat} (h6 : k ≠ 6) (hmk : ck ≤ 9223372036854775807) (hc : vs.length ≤ c) (hm : c ≤ 9223372036854775807)
    (hg : vs ≠ [] → a = some ⟨g, 0, none⟩ ∧ X g ∧ g < w.heap.size) (h8 : ∀ (i : Nat) (x : Val), vs[i]? = some x → At8 w g (i * 8) (fr i).cells ∧ HoldP X w (fr i).cells (sort x)) : HoldP X w (cellsV k b n s (.slice ak ([] : List (List UInt8)).length ck) (.slice a vs.length c)) (sort ⟨k, b, n, s, [], vs⟩) := by
  have hso : sort ⟨k, b, n, s, [], vs⟩ = if k = 6 then ⟨k, b, n, s, (rows [] vs).map (·.1), (rows [] vs).map (·.2)⟩ else ⟨k, b, n, s, [], sorts vs⟩ := sort_eq _
  rw [hso, if_neg h6]
  refine holdP_mk rfl (sorts_len vs) ⟨ak, ck, rfl, Nat.zero_le _, hmk, .inl rfl⟩ hc hm ?_
  by_cases e : vs = []
  · subst e
    exact .inl rfl
  · obtain ⟨ha, hX, hgl⟩ := hg e
    refine .inr ⟨g, ha, hX, hgl, holdsP_of fun i v hv => ?_⟩
    rw [sorts_map, List.getElem?_map] at hv
    obtain ⟨x, hx, rfl⟩ := Option.map_eq_some_iff.1 hv
    have := h8 i x hx
    exact ⟨_, by rw [Nat.zero_add]; exact this.1, this.2⟩
theorem sorted_none {X : Nat → Prop} {w : World} {b : Bool} {n : Dec} {s : List UInt8} {ak a : Option Addr} {ck c : Nat} (hmk : ck ≤ 9223372036854775807) (hm : c ≤ 9223372036854775807) : HoldP X w (cellsV 6 b n s (.slice ak ([] : List (List UInt8)).length ck) (.slice a ([] : List Val).length c)) (sort ⟨6, b, n, s, [], []⟩) := by
  have hso : sort ⟨6, b, n, s, [], []⟩ = ⟨6, b, n, s, [], []⟩ := by
    rw [sort_eq]
    rfl
  rw [hso]
  exact holdP_mk rfl rfl ⟨ak, ck, rfl, Nat.zero_le _, hmk, .inl rfl⟩ (Nat.zero_le _) hm (.inl rfl)
theorem sorted_obj {X : Nat → Prop} {w : World} {b : Bool} {n : Dec} {s : List UInt8} {ak a : Option Addr} {ck c : Nat} {ks : List (List UInt8)} {vs : List Val} {fr : Nat → F8} {d' : Array FRow} {g gk : Nat} (hl : ks.length = vs.length) (hnd : ks.Nodup) (hck : ks.length ≤ ck) (hmk : ck ≤ 9223372036854775807) (hc : vs.length ≤ c) (hm : c ≤ 9223372036854775807)
    (hak : ak = some ⟨gk, 0, none⟩) (ha : a = some ⟨g, 0, none⟩) (hXk : X gk) (hXg : X g) (hgk : gk < w.heap.size) (hg : g < w.heap.size) (hz : d'.size = ks.length) (hperm : d'.toList.Perm ((List.range ks.length).map (fld ks vs fr))) (hpw : d'.toList.Pairwise (fun x y => less y.key x.key = false))
    (hdn : ∀ i, i < ks.length → w.cell? ⟨gk, i, none⟩ = some (.string (txt (d'[i]!).key)) ∧ At8 w g (i * 8) (d'[i]!).f.cells) (hkeep : ∀ (j : Nat) (x : Val), vs[j]? = some x → HoldP X w (fr j).cells (sort x)) :
    HoldP X w (cellsV 6 b n s (.slice ak ks.length ck) (.slice a vs.length c)) (sort ⟨6, b, n, s, ks, vs⟩) := by
  have hso : sort ⟨6, b, n, s, ks, vs⟩ = if (6 : Int) = 6 then ⟨6, b, n, s, (rows ks vs).map (·.1), (rows ks vs).map (·.2)⟩ else ⟨6, b, n, s, [], sorts vs⟩ := sort_eq _
  have hr := rows_of hl hnd (fld_zip fr hl) hperm hpw
  rw [hso, if_pos rfl, ← hr, List.map_map, List.map_map]
  have hlen : d'.toList.length = ks.length := by simpa using hz
  have hat : ∀ (i : Nat) (x : FRow), d'.toList[i]? = some x → i < ks.length ∧ d'[i]! = x := fun i x hx => by
    obtain ⟨h1, h2⟩ := List.getElem?_eq_some_iff.1 hx
    have h3 : i < d'.size := by simpa using h1
    exact ⟨by omega, by rw [getElem!_pos d' i h3]; simpa using h2⟩
  refine holdP_mk (by rw [List.length_map, hlen]) (by rw [List.length_map, hlen]; exact hl) ⟨ak, ck, by rw [List.length_map, hlen], by rw [List.length_map, hlen]; exact hck, hmk, .inr ⟨gk, 0, hak, hXk, hgk, fun i l hi => ?_⟩⟩ hc hm (.inr ⟨g, ha, hXg, hg, holdsP_of fun i v hv => ?_⟩)
  · rw [List.getElem?_map] at hi
    obtain ⟨x, hx, rfl⟩ := Option.map_eq_some_iff.1 hi
    obtain ⟨h1, h2⟩ := hat i x hx
    rw [Nat.zero_add, (hdn i h1).1, h2]
    rfl
  · rw [List.getElem?_map] at hv
    obtain ⟨x, hx, rfl⟩ := Option.map_eq_some_iff.1 hv
    obtain ⟨h1, h2⟩ := hat i x hx
    have h3 := (hdn i h1).2
    rw [h2] at h3
    refine ⟨x.f.cells, by rw [Nat.zero_add]; exact h3, ?_⟩
    have h4 : x ∈ (List.range ks.length).map (fld ks vs fr) := hperm.subset (List.mem_of_getElem? hx)
    obtain ⟨j, hj, rfl⟩ := List.mem_map.1 h4
    have hj2 : j < vs.length := by rw [← hl]; exact List.mem_range.1 hj
    have h5 := hkeep j _ (List.getElem?_eq_getElem hj2)
    show HoldP X w (fr j).cells (sort (vs.getD j none'))
    rw [List.getD_eq_getElem?_getD, List.getElem?_eq_getElem hj2]
    exact h5
end Go.Proofs.YtlfbnfphocpgeaaGreatDoor.Tre
