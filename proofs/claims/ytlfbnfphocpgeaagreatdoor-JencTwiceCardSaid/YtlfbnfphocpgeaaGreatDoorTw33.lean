/- A part of what twice_holds leans on (its texts, put together). Nothing is claimed here. -/
import Derived.Deep.CutRange
import Derived.Test.YtlfbnfphocpgeaaGreatDoorTw12
import Derived.Test.YtlfbnfphocpgeaaGreatDoorTw17
import Derived.Test.YtlfbnfphocpgeaaGreatDoorTw32
namespace Go.Proofs.YtlfbnfphocpgeaaGreatDoor.Quo
open Go.RowKit Kit Txt Utf
theorem scan_nil' : scan [] = err 2 := rfl
theorem scan_no {l : List UInt8} (h0 : 0 < l.length) (h : nb l 0 ≠ 34) : scan l = err 3 := by
  obtain ⟨c, r, rfl⟩ := List.exists_cons_of_ne_nil (List.length_pos_iff.1 h0)
  unfold scan
  dsimp only
  rw [if_pos (by rintro rfl; exact h rfl)]
theorem scan_yes {l : List UInt8} (h : nb l 0 = 34) : scan l = scanF [] 1 (l.drop 1) := by
  obtain ⟨c, r, rfl⟩ := List.exists_cons_of_ne_nil (List.length_pos_iff.1 (nb_ne h (by omega)))
  have hc : c = 34 := UInt8.toNat_inj.1 h
  unfold scan
  dsimp only
  rw [if_neg (by simp [hc])]
  rfl
theorem head_nb (l : List UInt8) (q : Nat) : (l.drop q).head? = some 34 ↔ nb l q = 34 := by
  by_cases h : q < l.length
  · rw [List.drop_eq_getElem_cons h, nb_get h]
    simp only [List.head?_cons, Option.some.injEq]
    exact ⟨fun e => by rw [e]; rfl, fun e => UInt8.toNat_inj.1 e⟩
  · rw [List.drop_eq_nil_of_le (by omega), nb_past (by omega)]
    simp
set_option maxRecDepth 100000 in
set_option maxHeartbeats 8000000 in
theorem rscan_any {w : World} {l : List UInt8} (hl : l.length < 100000) :
    Calls Tryz.prog 38 #[.string (txt l)] w fun e w' => e = .returned (partV (scan l)) ∧ Below w.heap.size w w' := by
  have hs := txt_size l
  have ht0 : (⟨#[]⟩ : ByteArray) = txt [] := rfl
  have hA := World.alloc_heap_new w (.cells #[.string (txt []), .int .i64 0, .int .i64 0] 77)
  have bA : Below w.heap.size w (w.alloc (.cells #[.string (txt []), .int .i64 0, .int .i64 0] 77)) := (Below.refl _ w).alloc (Nat.le_refl _) _
  by_cases h0 : l = []
  · subst h0
    have HC := Lib.hid scan_nil'
    simp only [List.length_nil] at hs
    clear hA bA
    go_enter Tryz.func38, Tryz.ntmps38
    go_wp2_with fail
    refine bodyPost_ret (v := partV (err 2)) (by simp [results, Tryz.results38, go_sem, partV, err, *]) rfl ⟨by rw [HC.out], (Below.refl _ w).alloc (Nat.le_refl _) _⟩
  · have hn := List.length_pos_iff.2 h0
    have hn0 : ((l.length : Int) == 0) = false := by simp [h0]
    have hix := idx hn
    rw [show ((0 : Nat) : Int) = 0 from rfl] at hix
    by_cases h34 : nb l 0 = 34
    · have hsc := scan_yes h34
      have h34' : ((nb l 0 : Int) != 34) = false := by rw [h34]; rfl
      generalize nb l 0 = x at *
      have HS := Lib.hid hsc
      clear hsc h34
      go_enter Tryz.func38, Tryz.ntmps38
      go_wp2_with fail
      go_loopw [3, 4] (fun s a wr => ∃ (S : List UInt8) (q : Nat), s = .string (txt S) ∧ a = .int .i64 q ∧ q ≤ l.length ∧ S.length ≤ 4 * q ∧ scan l = scanF S q (l.drop q) ∧ wr.heap[w.heap.size]? = some (.cells #[.string (txt []), .int .i64 0, .int .i64 0] 77 (0, 0)) ∧ Below w.heap.size w wr) (fun _ a _ => l.length - (intOf a).toNat)
      case atStart => exact ⟨[], 1, by first | rfl | exact ht0 ▸ rfl, rfl, by omega, by simp, HS.out, hA, bA⟩
      case round =>
        clear hA bA HS hix
        obtain ⟨S, q, rfl, rfl, hq, hSl, hsc, hA, bA⟩ := hrel
        have hh := head_nb l q
        have hwq : IntKind.i64.wrap ((q : Int) + 1) = (q : Int) + 1 := by simp only [IntKind.wrap, IntKind.signed, IntKind.bits]; simp; omega
        by_cases he : nb l q = 34
        · have hlt := nb_ne he (by omega)
          have hlt' : (q : Int) < (l.length : Int) := by omega
          have hix := idx hlt
          rw [he] at hix
          rw [scanF_end (hh.2 he)] at hsc
          have HC := Lib.hid hsc
          obtain ⟨q0, q1, q2⟩ := three hA
          have qf := free_of hA
          clear hA hh he hsc
          go_wp2_with fail
          refine bodyPost_ret (v := partV ⟨S, q + 1, 0⟩) (by simp [results, Tryz.results38, go_sem, partV, *]) rfl ⟨by rw [HC.out], below_set3 bA (Nat.le_refl _) _ _ _⟩
        · have hne : (l.drop q).head? ≠ some 34 := fun e => he (hh.1 e)
          have hp := fun wx => part_any (w := wx) (l := l) (i := q) (by omega) (by omega)
          have hok := fun e => part_ok (l := l.drop q) e
          have hon := fun e => scanF_on (s := S) (at' := q) hne e
          have her := fun e => scanF_err (s := S) (at' := q) hne e
          rw [List.length_drop] at hok
          simp only [List.drop_drop] at hon
          generalize part (l.drop q) = p at *
          have hcase : (decide (q < l.length) = true ∧ (q : Int) < (l.length : Int) ∧ (∀ wx : World, (Instr.index 9 (.string (txt l)) (.int .i64 (q : Int))).run Tryz.prog wx = .ok (.int .u8 (nb l q : Int)) wx)) ∨ decide (q < l.length) = false := by
            by_cases h : q < l.length
            · left
              exact ⟨decide_eq_true h, by omega, fun wx => idx h wx⟩
            · right
              exact decide_eq_false h
          have he' : ((nb l q : Int) == 34) = false := by simp; omega
          generalize nb l q = y at *
          by_cases c0 : p.e = 0
          · obtain ⟨cc, hsc1, hps, hsz1, hsz2⟩ := hok c0
            have hel := (enc_len (c := cc)).2
            rw [← hps] at hel
            rw [hon c0] at hsc
            obtain ⟨ps, pz, pe⟩ := p
            dsimp only at c0 hps hsz1 hsz2 hel hsc
            subst c0
            obtain ⟨f1, g1⟩ := add_lit (a := S) (b := ps) (c := S ++ ps) rfl rfl (by omega) (by omega)
            have wz : IntKind.i64.wrap ((q : Int) + (pz : Int)) = (q : Int) + (pz : Int) := by simp only [IntKind.wrap, IntKind.signed, IntKind.bits]; simp; omega
            have HC := Lib.hid hsc
            simp only [partV] at hp
            clear hok hon her hsc hh hne he hps hsc1
            rcases hcase with ⟨d1, d1', hix⟩ | d1
            all_goals
              go_wp2_with fail
              refine (hp _).mono ?_
              rintro e w2 ⟨rfl, k2⟩
              have hA2 := new_of ((k2.block _ (lt_of_heap hA)).trans hA) (.cells #[.string (txt ps), .int .i64 pz, .int .i64 0] 77)
              have b2 := (bA.trans (k2.mono bA.size)).alloc (bA.trans (k2.mono bA.size)).size (.cells #[.string (txt ps), .int .i64 pz, .int .i64 0] 77)
              clear k2
              go_wp2_with fail
              go_roundw
              case rel => exact ⟨S ++ ps, q + pz, rfl, by go_num, by omega, by rw [List.length_append]; omega, HC.out, hA2, b2⟩
              case measure => simp [intOf]; omega
          · rw [her c0] at hsc
            obtain ⟨ps, pz, pe⟩ := p
            dsimp only at c0 hsc
            have c0' : ((pe : Int) != 0) = true := by simp; omega
            have HC := Lib.hid hsc
            simp only [partV] at hp
            clear hok hon her hsc hh hne he
            rcases hcase with ⟨d1, d1', hix⟩ | d1
            all_goals
              go_wp2_with fail
              refine (hp _).mono ?_
              rintro e w2 ⟨rfl, k2⟩
              have hA2 := (k2.block _ (lt_of_heap hA)).trans hA
              have b2 := bA.trans (k2.mono bA.size)
              obtain ⟨q0, q1, q2⟩ := three hA2
              have qf := free_of hA2
              have hlt2 := lt_of_heap hA2
              clear k2
              go_wp2_with fail
              refine bodyPost_ret (v := partV (err pe)) (by simp [results, Tryz.results38, go_sem, partV, err, *]) rfl ⟨by rw [HC.out], (below_set3 b2 (Nat.le_refl _) _ _ _).alloc (below_set3 b2 (Nat.le_refl _) _ _ _).size _⟩
    · have hsc := scan_no hn h34
      have h34' : ((nb l 0 : Int) != 34) = true := by simp; omega
      generalize nb l 0 = x at *
      have HC := Lib.hid hsc
      clear hsc h34 hA bA
      go_enter Tryz.func38, Tryz.ntmps38
      go_wp2_with fail
      refine bodyPost_ret (v := partV (err 3)) (by simp [results, Tryz.results38, go_sem, partV, err, *]) rfl ⟨by rw [HC.out], (Below.refl _ w).alloc (Nat.le_refl _) _⟩
end Go.Proofs.YtlfbnfphocpgeaaGreatDoor.Quo
namespace Go.Proofs.YtlfbnfphocpgeaaGreatDoor.Bld
open Go.RowKit Kit Txt
theorem byte_any {B b : Nat} {l : List UInt8} {c : UInt8} {x : Int} {w : World} (h : Bld B b l w) (hl : l.length < 1000000) (hx : x = (c.toNat : Int)) :
    Calls Tryz.prog 107 #[.pointer (some ⟨b, 0, none⟩), .int .u8 x] w fun e w' => e = .returned .nilIface ∧ Bld B b (l ++ [c]) w' ∧ Below B w w' := by
  subst hx
  refine (Tryz.Builder_WriteByte B b (Lib.byteCells l) (c.toNat : Int) w h.2 (by rw [Lib.byteCells_length]; omega) h.1).mono ?_
  rintro e w' ⟨he, hb, k⟩
  refine ⟨he, ⟨Nat.le_trans h.1 k.size, .inr ?_⟩, k⟩
  rw [← cells_app]
  exact hb
end Go.Proofs.YtlfbnfphocpgeaaGreatDoor.Bld
namespace Go.Proofs.YtlfbnfphocpgeaaGreatDoor.Quo
open Go.RowKit Kit Txt Utf Bld
def Ok (w : World) : Prop := Laid w
theorem Ok.below {w w' : World} (h : Ok w) (k : Below w.heap.size w w') : Ok w' := Laid.below h k (Laid.lt h)
def hexL : List UInt8 := [48, 49, 50, 51, 52, 53, 54, 55, 56, 57, 97, 98, 99, 100, 101, 102]
theorem esc_how : ∀ x : Fin 256, (AsIs x.val ∧ esc (UInt8.ofNat x.val) = [UInt8.ofNat x.val]) ∨
    (¬ AsIs x.val ∧ ∃ i : Fin 8, Lib.indexByte meansL (UInt8.ofNat x.val) = (i.val : Int) ∧ esc (UInt8.ofNat x.val) = [92, signsL.getD i.val 0]) ∨
    (¬ AsIs x.val ∧ Lib.indexByte meansL (UInt8.ofNat x.val) = -1 ∧ esc (UInt8.ofNat x.val) = [92, 117, 48, 48, hexL.getD (x.val / 16) 0, hexL.getD (x.val % 16) 0]) := by decide +kernel
theorem esc_cases (c : UInt8) : (AsIs c.toNat ∧ esc c = [c]) ∨ (¬ AsIs c.toNat ∧ ∃ i : Nat, i < 8 ∧ Lib.indexByte meansL c = (i : Int) ∧ esc c = [92, signsL.getD i 0]) ∨
    (¬ AsIs c.toNat ∧ Lib.indexByte meansL c = -1 ∧ esc c = [92, 117, 48, 48, hexL.getD (c.toNat / 16) 0, hexL.getD (c.toNat % 16) 0]) := by
  have h := esc_how ⟨c.toNat, c.toNat_lt⟩
  dsimp only at h
  rw [show UInt8.ofNat c.toNat = c from UInt8.ofNat_toNat] at h
  exact h.imp id (Or.imp (fun ⟨h0, i, h1, h2⟩ => ⟨h0, i.val, i.isLt, h1, h2⟩) id)
theorem idx8 {l : List UInt8} {i : Nat} (h : i < l.length) (wx : World) : (Instr.index 9 (.string (txt l)) (.int .u8 (i : Int))).run Tryz.prog wx = .ok (.int .u8 ((l.getD i 0).toNat : Int)) wx := by
  have hs := txt_size l
  rw [run_index_string wx 9 (txt l) .u8 i Tryz.underlying9, dif_pos ⟨by omega, by omega⟩]
  congr 3
  rw [List.getD_eq_getElem?_getD, List.getElem?_eq_getElem h]
  rfl
theorem idx64 {l : List UInt8} {i : Nat} (h : i < l.length) (wx : World) : (Instr.index 9 (.string (txt l)) (.int .i64 (i : Int))).run Tryz.prog wx = .ok (.int .u8 ((l.getD i 0).toNat : Int)) wx := idx h wx
theorem and15 : ∀ x : Nat, x < 256 → bits .and .u8 (x : Int) 15 = ((x % 16 : Nat) : Int) := by decide +kernel
theorem flat_step {l : List UInt8} {k : Nat} (h : k < l.length) : (l.take (k + 1)).flatMap esc = (l.take k).flatMap esc ++ esc l[k] := by
  rw [List.take_succ_eq_append_getElem h, List.flatMap_append]
  simp
set_option maxRecDepth 100000 in
set_option maxHeartbeats 4000000 in
theorem qprint_any {w : World} (ho : Ok w) {l : List UInt8} (hl : l.length < 100000) :
    Calls Tryz.prog 111 #[.string (txt l)] w fun e w' => e = .returned (.tuple #[.string (txt (if bad l = none then print l else [])), .int .i64 ((if bad l = none then 0 else 7 : Nat) : Int)]) ∧ Below w.heap.size w w' := by
  have hz := txt_size l
  have ht0 : (⟨#[]⟩ : ByteArray) = txt [] := rfl
  have hv := valid_any (w := w) (s := txt l) (by omega) ho
  rw [txt_list, decide_eq_decide.2 (badI_neg l)] at hv
  by_cases hb : bad l = none
  case neg =>
    rw [decide_eq_false hb] at hv
    simp only [if_neg hb]
    clear hb
    go_enter Tryz.func111, Tryz.ntmps111
    go_wp2_with fail
    refine hv.mono ?_
    rintro _ w1 ⟨rfl, k1⟩
    go_wp2_with fail
    go_ret2
    exact ⟨rfl, k1⟩
  rw [decide_eq_true hb] at hv
  simp only [if_pos hb]
  clear hb
  have hby := fun (B : Nat) (wx : World) (a : List UInt8) (c : UInt8) (x : Int) (h : Bld B B a wx) (ha : a.length < 1000000) (hx : x = (c.toNat : Int)) => byte_any h ha (c := c) hx
  have hst := fun (B : Nat) (wx : World) (a b : List UInt8) (h : Bld B B a wx) (ha : a.length < 1000000) (hb : b.length < 1000000) => str_any h ha (m := b) hb
  have hsg := fun (B : Nat) (wx : World) (a : List UInt8) (h : Bld B B a wx) => string_any h
  have hpr : print l = 34 :: (l.flatMap esc ++ [34]) := rfl
  have hP := Lib.hid hpr
  clear hpr
  go_enter Tryz.func111, Tryz.ntmps111
  go_wp2_with fail
  refine hv.mono ?_
  rintro _ w1 ⟨rfl, k1⟩
  have b0 := Bld.new w1
  have q0 : Below w.heap.size w (w1.alloc (.cells #[.pointer none, .slice none 0 0] 62)) := k1.alloc k1.size _
  go_wp2_with fail
  refine (hby _ _ _ 34 _ b0 (by simp) rfl).mono ?_
  rintro _ w2 ⟨rfl, b2, k2⟩
  have q2 := q0.trans (k2.mono k1.size)
  have hBw := k1.size
  rw [List.nil_append] at b2
  go_wp2_with fail
  go_loopw [14] (fun i wr => ∃ k : Nat, k ≤ l.length ∧ i = .int .i64 (k : Int) ∧ Bld w1.heap.size w1.heap.size (34 :: (l.take k).flatMap esc) wr ∧ Below w.heap.size w wr ∧ ((l.take k).flatMap esc).length ≤ 6 * k) (fun i _ => l.length - (intOf i).toNat)
  case atStart => exact ⟨0, Nat.zero_le _, rfl, b2, q2, by simp⟩
  case round =>
    clear b2 q2 b0 q0 hv
    obtain ⟨k, hk, rfl, hB, hq, hlen⟩ := hrel
    by_cases hlt : k < l.length
    · have hks : (k : Int) < (l.length : Int) := by omega
      have hix := idx hlt
      rw [nb_get hlt] at hix
      have hfs := flat_step hlt
      have hc := esc_cases l[k]
      have hai := fun wx => asItIs_any (w := wx) (c := (l[k]).toNat) (x := ((l[k]).toNat : Int)) rfl
      have hib := fun wx => index_any (w := wx) meansL l[k]
      have tm : (⟨#[34, 92, 47, 8, 12, 10, 13, 9]⟩ : ByteArray) = txt meansL := rfl
      have ts : (⟨#[34, 92, 47, 98, 102, 110, 114, 116]⟩ : ByteArray) = txt signsL := rfl
      have th : (⟨#[48, 49, 50, 51, 52, 53, 54, 55, 56, 57, 97, 98, 99, 100, 101, 102]⟩ : ByteArray) = txt hexL := rfl
      have tu : (⟨#[92, 117, 48, 48]⟩ : ByteArray) = txt [92, 117, 48, 48] := rfl
      have hlt8 : (l[k]).toNat < 256 := (l[k]).toNat_lt
      rcases hc with ⟨h1, h2⟩ | ⟨h1, i, hi, h2, h3⟩ | ⟨h1, h2, h3⟩
      · simp only [decide_eq_true h1] at hai
        rw [h2] at hfs
        have hF := Lib.hid hfs
        clear hfs h1 h2 hib tm ts th tu hst
        generalize l[k] = c at *
        go_wp2_with fail
        refine (hai _).mono ?_
        rintro _ w3 ⟨rfl, rfl⟩
        go_wp2_with fail
        refine (hby _ _ _ c _ hB (by rw [List.length_cons]; omega) rfl).mono ?_
        rintro _ w4 ⟨rfl, b4, k4⟩
        go_wp2_with fail
        go_roundw
        case rel => exact ⟨k + 1, by omega, by go_num, by rw [hF.out]; exact b4, hq.trans (k4.mono hBw), by rw [hF.out, List.length_append, List.length_singleton]; omega⟩
        case measure => simp [intOf]; omega
      · simp only [decide_eq_false h1] at hai
        simp only [h2] at hib
        rw [h3] at hfs
        have hF := Lib.hid hfs
        have hsi := fun wx => idx64 (l := signsL) (i := i) hi wx
        have d0 : (0 : Int) ≤ (i : Int) := by omega
        clear hfs h1 h2 h3 th tu hst
        generalize signsL.getD i 0 = sg at *
        generalize l[k] = c at *
        go_wp2_with fail
        refine (hai _).mono ?_
        rintro _ w3 ⟨rfl, rfl⟩
        go_wp2_with fail
        refine (hib _).mono ?_
        rintro _ w3 ⟨rfl, rfl⟩
        go_wp2_with fail
        refine (hby _ _ _ 92 _ hB (by rw [List.length_cons]; omega) rfl).mono ?_
        rintro _ w4 ⟨rfl, b4, k4⟩
        go_wp2_with fail
        refine (hby _ _ _ sg _ b4 (by rw [List.length_append, List.length_cons, List.length_singleton]; omega) rfl).mono ?_
        rintro _ w5 ⟨rfl, b5, k5⟩
        go_wp2_with fail
        go_roundw
        case rel => exact ⟨k + 1, by omega, by go_num, by rw [hF.out]; rw [List.append_assoc] at b5; exact b5, hq.trans ((k4.trans k5).mono hBw), by rw [hF.out, List.length_append]; show _ + 2 ≤ _; omega⟩
        case measure => simp [intOf]; omega
      · simp only [decide_eq_false h1] at hai
        simp only [h2] at hib
        rw [h3] at hfs
        have hF := Lib.hid hfs
        have hi1 := fun wx => idx8 (l := hexL) (i := (l[k]).toNat / 16) (by show _ < 16; omega) wx
        have hi2 := fun wx => idx8 (l := hexL) (i := (l[k]).toNat % 16) (by show _ < 16; omega) wx
        have ha := and15 (l[k]).toNat hlt8
        have hd : ((l[k]).toNat : Int) / 16 = (((l[k]).toNat / 16 : Nat) : Int) := by omega
        clear hfs h1 h2 h3 ts
        generalize hexL.getD ((l[k]).toNat / 16) 0 = g1 at *
        generalize hexL.getD ((l[k]).toNat % 16) 0 = g2 at *
        generalize (l[k]).toNat / 16 = n1 at *
        generalize (l[k]).toNat % 16 = n2 at *
        generalize l[k] = c at *
        go_wp2_with fail
        refine (hai _).mono ?_
        rintro _ w3 ⟨rfl, rfl⟩
        go_wp2_with fail
        refine (hib _).mono ?_
        rintro _ w3 ⟨rfl, rfl⟩
        go_wp2_with fail
        refine (hst _ _ _ [92, 117, 48, 48] hB (by rw [List.length_cons]; omega) (by decide)).mono ?_
        rintro _ w4 ⟨rfl, b4, k4⟩
        go_wp2_with fail
        refine (hby _ _ _ g1 _ b4 (by rw [List.length_append, List.length_cons]; show _ + 4 < _; omega) rfl).mono ?_
        rintro _ w5 ⟨rfl, b5, k5⟩
        go_wp2_with fail
        refine (hby _ _ _ g2 _ b5 (by rw [List.length_append, List.length_append, List.length_cons]; show _ + 4 + 1 < _; omega) rfl).mono ?_
        rintro _ w6 ⟨rfl, b6, k6⟩
        go_wp2_with fail
        go_roundw
        case rel => exact ⟨k + 1, by omega, by go_num, by rw [hF.out]; rw [List.append_assoc, List.append_assoc] at b6; exact b6, hq.trans (((k4.trans k5).trans k6).mono hBw), by rw [hF.out, List.length_append]; show _ + 6 ≤ _; omega⟩
        case measure => simp [intOf]; omega
    · obtain rfl : k = l.length := by omega
      rw [List.take_of_length_le (Nat.le_refl _)] at hB hlen
      go_wp2_with fail
      refine (hby _ _ _ 34 _ hB (by rw [List.length_cons]; omega) rfl).mono ?_
      rintro _ w4 ⟨rfl, b4, k4⟩
      go_wp2_with fail
      refine (hsg _ _ _ b4).mono ?_
      rintro _ w5 ⟨rfl, k5⟩
      go_wp2_with fail
      go_ret2
      rw [hP.out]
      exact ⟨rfl, hq.trans ((k4.trans k5).mono hBw)⟩
end Go.Proofs.YtlfbnfphocpgeaaGreatDoor.Quo
namespace Go.Proofs.YtlfbnfphocpgeaaGreatDoor.Tre
open Go.RowKit Kit Txt
open Num (Dec zero)
end Go.Proofs.YtlfbnfphocpgeaaGreatDoor.Tre
namespace Go.Proofs.YtlfbnfphocpgeaaGreatDoor.Tre
open Go.RowKit Kit Txt
open Num (Dec zero)
end Go.Proofs.YtlfbnfphocpgeaaGreatDoor.Tre
namespace Go.Proofs.YtlfbnfphocpgeaaGreatDoor.Tre
open Go.RowKit Kit Txt
open Num (Dec zero)
end Go.Proofs.YtlfbnfphocpgeaaGreatDoor.Tre
namespace Go.Proofs.YtlfbnfphocpgeaaGreatDoor.Tre
open Go.RowKit Kit Txt
open Num (Dec zero)
def Tells (p : Prop) (w : World) (e : Ending) (w' : World) : Prop := (∃ r : Bool, e = .returned (.bool r) ∧ (r = true ↔ p)) ∧ Below w.heap.size w w'
theorem Tells.yes {p : Prop} {w w' : World} (h : p) (b : Below w.heap.size w w') : Tells p w (.returned (.bool true)) w' := ⟨⟨true, rfl, by simp [h]⟩, b⟩
theorem Tells.no {p : Prop} {w w' : World} (h : ¬ p) (b : Below w.heap.size w w') : Tells p w (.returned (.bool false)) w' := ⟨⟨false, rfl, by simp [h]⟩, b⟩
def Bad3 (k : Int) (b : Bool) (n : Dec) (s : List UInt8) : Prop := (k ≠ 2 ∧ b = true) ∨ (k ≠ 3 ∧ n ≠ zero) ∨ (k ≠ 4 ∧ s ≠ [])
instance (k : Int) (b : Bool) (n : Dec) (s : List UInt8) : Decidable (Bad3 k b n s) := by unfold Bad3; exact inferInstance
def Bad5 (k : Int) (ks : List (List UInt8)) (m : Nat) : Prop := (k < 5 ∧ 0 < m) ∨ (k ≠ 6 ∧ 0 < ks.length)
instance (k : Int) (ks : List (List UInt8)) (m : Nat) : Decidable (Bad5 k ks m) := by unfold Bad5; exact inferInstance
def Bad9 (k : Int) (ks : List (List UInt8)) (m : Nat) : Prop := k = 6 ∧ ks.length ≠ m
def Bad7 (n : Dec) (s : List UInt8) : Prop := ¬ Num.Right n ∨ Utf.bad s ≠ none
instance (n : Dec) (s : List UInt8) : Decidable (Bad7 n s) := by unfold Bad7; exact inferInstance
instance (k : Int) (ks : List (List UInt8)) (m : Nat) : Decidable (Bad9 k ks m) := by unfold Bad9; exact inferInstance
end Go.Proofs.YtlfbnfphocpgeaaGreatDoor.Tre
