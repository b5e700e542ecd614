/- A part of what twice_holds leans on (its texts, put together). Nothing is claimed here. -/
import Derived.Test.YtlfbnfphocpgeaaGreatDoorTw6
namespace Go.Proofs.YtlfbnfphocpgeaaGreatDoor.Quo
open Utf
def AsIs (c : Nat) : Prop := 32 ≤ c ∧ c ≠ 34 ∧ c ≠ 92
instance (c : Nat) : Decidable (AsIs c) := by unfold AsIs; exact inferInstance
theorem part_plain {c : Nat} (hc : Scalar c) (h : AsIs c) (r : List UInt8) : part (enc c ++ r) = ⟨enc c, (enc c).length, 0⟩ ∧ (enc c ++ r).head? ≠ some 34 := by
  have hs := h
  unfold AsIs at hs
  by_cases h1 : c < 128
  · have e : (UInt8.ofNat c).toNat = c := nbc (by omega)
    have hb := enc_byte (x := UInt8.ofNat c) (by omega)
    rw [e] at hb
    have h92 : UInt8.ofNat c ≠ 92 := by
      intro k
      rw [k] at e
      exact hs.2.2 e.symm
    have h34 : UInt8.ofNat c ≠ 34 := by
      intro k
      rw [k] at e
      exact hs.2.1 e.symm
    have ho := one_enc hc r
    rw [hb] at ho ⊢
    refine ⟨?_, by simpa using h34⟩
    show part (UInt8.ofNat c :: r) = _
    have ho' : one (UInt8.ofNat c :: r) = (c, 1) := ho
    unfold part
    dsimp only
    rw [if_neg (by omega), if_pos h92, ho']
    dsimp only
    rw [if_neg (by omega)]
    rfl
  · refine ⟨part_hi hc (by omega) r, ?_⟩
    have hl := enc_len (c := c)
    obtain ⟨b, t, e⟩ := List.exists_cons_of_ne_nil (show enc c ≠ [] by intro e; rw [e] at hl; simp at hl)
    have hb0 := enc_hi hc (by omega) b (by rw [e]; simp)
    rw [e]
    simp
    rintro rfl
    revert hb0
    decide
theorem not_asIs_lt {c : Nat} (h : ¬ AsIs c) : c < 128 := by
  unfold AsIs at h
  omega
theorem one_hi {c : UInt8} {r : List UInt8} (h : (one (c :: r)).2 = 0) : 128 ≤ c.toNat := by
  by_cases h1 : c.toNat < 128
  · exfalso
    have := one_enc (c := c.toNat) (by unfold Scalar; omega) r
    rw [enc_byte h1] at this
    have e : one (c :: r) = (c.toNat, 1) := this
    rw [e] at h
    cases h
  · omega
theorem part_bad {l : List UInt8} (hne : l ≠ []) (h : (one l).2 = 0) : part l = err 7 ∧ l.head? ≠ some 34 := by
  obtain ⟨c, r, rfl⟩ := List.exists_cons_of_ne_nil hne
  have h1 := one_hi h
  constructor
  · unfold part
    dsimp only
    rw [if_neg (by omega), if_pos (by rintro rfl; revert h1; decide), if_pos h]
  · simp
    rintro rfl
    revert h1
    decide
theorem scan_till : ∀ (n : Nat) (l : List UInt8), l.length = n → ∀ (p k c : Nat) (pre suf : List (Nat × Nat)), (Utf.scan p l).1 = pre ++ (k, c) :: suf → (∀ x ∈ pre, AsIs x.2) → ¬ AsIs c →
    ∃ m r, k = p + m ∧ m ≤ l.length ∧ l.drop m = UInt8.ofNat c :: r ∧ ∀ s at', scanF s at' l = scanF (s ++ l.take m) (at' + m) (l.drop m) := by
  intro n
  induction n using Nat.strongRecOn with
  | ind n ih =>
    intro l hl p k c pre suf h hpre hc
    rcases scan_cases l with rfl | ⟨hne, h0⟩ | ⟨d, r, hd, rfl, ho, hr⟩
    · rw [scan_nil] at h
      simp at h
    · rw [scan_bad hne h0] at h
      simp at h
    · rw [scan_enc hd r] at h
      cases pre with
      | nil =>
        rw [List.nil_append] at h
        injection h with h1 h2
        injection h1 with h3 h4
        subst h3; subst h4
        have hb := enc_byte (x := UInt8.ofNat d) (by rw [nbc (by have := not_asIs_lt hc; omega)]; exact not_asIs_lt hc)
        rw [nbc (by have := not_asIs_lt hc; omega)] at hb
        exact ⟨0, r, rfl, Nat.zero_le _, by rw [hb]; rfl, fun s at' => by simp⟩
      | cons x pre' =>
        rw [List.cons_append] at h
        injection h with h1 h2
        have hx := hpre x (by simp)
        rw [← h1] at hx
        obtain ⟨m, r', e1, e2, e3, e4⟩ := ih r.length (by rw [List.length_append] at hl; have := (enc_len (c := d)).1; omega) r rfl (p + (enc d).length) k c pre' suf h2 (fun y hy => hpre y (by simp [hy])) hc
        have hp := part_plain hd hx r
        have hdr : (enc d ++ r).drop ((enc d).length + m) = r.drop m := by rw [List.drop_append]; simp
        refine ⟨(enc d).length + m, r', by omega, by rw [List.length_append]; omega, by rw [hdr]; exact e3, fun s at' => ?_⟩
        rw [scanF_on hp.2 (by rw [hp.1]), hp.1]
        dsimp only
        have htk : (enc d ++ r).take ((enc d).length + m) = enc d ++ r.take m := by
          rw [List.take_append, List.take_of_length_le (by omega), Nat.add_sub_cancel_left]
        rw [List.drop_left, e4, hdr, htk, List.append_assoc, Nat.add_assoc]
theorem scan_thro : ∀ (n : Nat) (l : List UInt8), l.length = n → ∀ (p : Nat), (∀ x ∈ (Utf.scan p l).1, AsIs x.2) → ∀ s at', scanF s at' l = err (if (Utf.scan p l).2 = none then 2 else 7) := by
  intro n
  induction n using Nat.strongRecOn with
  | ind n ih =>
    intro l hl p h s at'
    rcases scan_cases l with rfl | ⟨hne, h0⟩ | ⟨d, r, hd, rfl, ho, hr⟩
    · rw [scan_nil, if_pos rfl, scanF_err (by simp) (by decide)]
      rfl
    · have hp := part_bad hne h0
      rw [scan_bad hne h0, if_neg (by simp), scanF_err hp.2 (by rw [hp.1]; decide), hp.1]
      rfl
    · rw [scan_enc hd r] at h ⊢
      have hx := h (p, d) (by simp)
      have hp := part_plain hd hx r
      rw [scanF_on hp.2 (by rw [hp.1]), hp.1]
      dsimp only
      rw [List.drop_left]
      exact ih r.length (by rw [List.length_append] at hl; have := (enc_len (c := d)).1; omega) r rfl (p + (enc d).length) (fun y hy => h y (by simp [hy])) _ _
theorem all_till {l : List UInt8} {k c : Nat} {pre suf : List (Nat × Nat)} (h : all l = pre ++ (k, c) :: suf) (hpre : ∀ x ∈ pre, AsIs x.2) (hc : ¬ AsIs c) :
    k ≤ l.length ∧ (∃ r, l.drop k = UInt8.ofNat c :: r) ∧ ∀ s at', scanF s at' l = scanF (s ++ l.take k) (at' + k) (l.drop k) := by
  obtain ⟨m, r, e1, e2, e3, e4⟩ := scan_till l.length l rfl 0 k c pre suf h hpre hc
  obtain rfl : k = m := by omega
  exact ⟨e2, ⟨r, e3⟩, e4⟩
theorem all_thro {l : List UInt8} (h : ∀ x ∈ all l, AsIs x.2) (s : List UInt8) (at' : Nat) : scanF s at' l = err (if bad l = none then 2 else 7) := scan_thro l.length l rfl 0 h s at'
theorem scanF_no : ∀ (k : Nat) (l : List UInt8), l.length = k → ∀ (s : List UInt8) (at' : Nat), (scanF s at' l).e ≠ 0 → scanF s at' l = err (scanF s at' l).e := by
  intro k
  induction k using Nat.strongRecOn with
  | ind k ih =>
    intro l hl s at' h
    by_cases h1 : l.head? = some 34
    · rw [scanF_end h1] at h
      exact absurd rfl h
    · by_cases he : (part l).e = 0
      · rw [scanF_on h1 he] at h ⊢
        obtain ⟨c, k1, k2, k3, k4⟩ := part_ok he
        exact ih (l.drop (part l).size).length (by rw [List.length_drop]; omega) _ rfl _ _ h
      · rw [scanF_err h1 he]
        rfl
theorem scan_err_nil {l : List UInt8} (h : (scan l).e ≠ 0) : scan l = err (scan l).e := by
  unfold scan at h ⊢
  split at h
  · rfl
  · split at h
    · rename_i c r hc
      rw [if_pos hc]
      rfl
    · rename_i c r hc
      rw [if_neg hc]
      exact scanF_no r.length r rfl [] 1 h
end Go.Proofs.YtlfbnfphocpgeaaGreatDoor.Quo
namespace Go.Proofs.YtlfbnfphocpgeaaGreatDoor.Quo
open Go.RowKit Kit Txt Utf
def hexI (c : UInt8) : Int := match hexV c with
  | some d => d
  | none => -1
theorem hexI_cases (c : UInt8) : (48 ≤ c.toNat ∧ c.toNat ≤ 57 ∧ hexI c = (c.toNat : Int) - 48) ∨ (97 ≤ c.toNat ∧ c.toNat ≤ 102 ∧ hexI c = (c.toNat : Int) - 97 + 10) ∨ (65 ≤ c.toNat ∧ c.toNat ≤ 70 ∧ hexI c = (c.toNat : Int) - 65 + 10) ∨
    (¬ (48 ≤ c.toNat ∧ c.toNat ≤ 57) ∧ ¬ (97 ≤ c.toNat ∧ c.toNat ≤ 102) ∧ ¬ (65 ≤ c.toNat ∧ c.toNat ≤ 70) ∧ hexI c = -1) := by
  unfold hexI hexV
  by_cases h1 : 48 ≤ c.toNat ∧ c.toNat ≤ 57
  · left
    rw [if_pos h1]
    exact ⟨h1.1, h1.2, by dsimp only; omega⟩
  rw [if_neg h1]
  by_cases h2 : 97 ≤ c.toNat ∧ c.toNat ≤ 102
  · right; left
    rw [if_pos h2]
    exact ⟨h2.1, h2.2, by dsimp only; omega⟩
  rw [if_neg h2]
  by_cases h3 : 65 ≤ c.toNat ∧ c.toNat ≤ 70
  · right; right; left
    rw [if_pos h3]
    exact ⟨h3.1, h3.2, by dsimp only; omega⟩
  rw [if_neg h3]
  exact .inr (.inr (.inr ⟨h1, h2, h3, rfl⟩))
theorem hexI_none {c : UInt8} (h : hexV c = none) : hexI c = -1 := by unfold hexI; rw [h]
theorem hexI_some {c : UInt8} {d : Nat} (h : hexV c = some d) : hexI c = d ∧ d ≤ 15 := by
  have := hexI_cases c
  have hlt := c.toNat_lt
  have e : hexI c = d := by unfold hexI; rw [h]
  exact ⟨e, by omega⟩
set_option maxRecDepth 100000 in
set_option maxHeartbeats 1000000 in
theorem hex_any {w : World} (c : UInt8) : Calls Tryz.prog 152 #[.int .u8 (c.toNat : Int)] w fun e w' => e = .returned (.int .i64 (hexI c)) ∧ w' = w := by
  have hlt : c.toNat < 256 := c.toNat_lt
  have hc := hexI_cases c
  generalize c.toNat = x at *
  have w1 : 48 ≤ x → IntKind.u8.wrap ((x : Int) - 48) = (x : Int) - 48 := fun h => by simp only [IntKind.wrap, IntKind.signed, IntKind.bits]; simp; omega
  have w2 : 97 ≤ x → IntKind.u8.wrap ((x : Int) - 97) = (x : Int) - 97 := fun h => by simp only [IntKind.wrap, IntKind.signed, IntKind.bits]; simp; omega
  have w3 : 65 ≤ x → IntKind.u8.wrap ((x : Int) - 65) = (x : Int) - 65 := fun h => by simp only [IntKind.wrap, IntKind.signed, IntKind.bits]; simp; omega
  rcases hc with ⟨h1, h2, h3⟩ | ⟨h1, h2, h3⟩ | ⟨h1, h2, h3⟩ | ⟨h1, h2, h3, h4⟩
  · rw [h3]
    have w1 := w1 h1
    have d1 : (48 : Int) ≤ (x : Int) := by omega
    have d2 : (x : Int) ≤ 57 := by omega
    clear h3
    go_enter Tryz.func152, Tryz.ntmps152
    go_wp2_with fail
    go_ret
    simp
  · rw [h3]
    have w2 := w2 h1
    have d1 : (48 : Int) ≤ (x : Int) := by omega
    have d2 : decide ((x : Int) ≤ 57) = false := by simp; omega
    have d3 : (97 : Int) ≤ (x : Int) := by omega
    have d4 : (x : Int) ≤ 102 := by omega
    clear h3
    go_enter Tryz.func152, Tryz.ntmps152
    go_wp2_with fail
    go_ret
    simp
  · rw [h3]
    have w3 := w3 h1
    have d1 : (48 : Int) ≤ (x : Int) := by omega
    have d2 : decide ((x : Int) ≤ 57) = false := by simp; omega
    have d3 : decide ((97 : Int) ≤ (x : Int)) = false := by simp; omega
    have d4 : (65 : Int) ≤ (x : Int) := by omega
    have d5 : (x : Int) ≤ 70 := by omega
    clear h3
    go_enter Tryz.func152, Tryz.ntmps152
    go_wp2_with fail
    go_ret
    simp
  · rw [h4]
    have q1 : decide ((48 : Int) ≤ (x : Int)) = false ∨ (decide ((48 : Int) ≤ (x : Int)) = true ∧ decide ((x : Int) ≤ 57) = false) := by simp; omega
    have q2 : decide ((97 : Int) ≤ (x : Int)) = false ∨ (decide ((97 : Int) ≤ (x : Int)) = true ∧ decide ((x : Int) ≤ 102) = false) := by simp; omega
    have q3 : decide ((65 : Int) ≤ (x : Int)) = false ∨ (decide ((65 : Int) ≤ (x : Int)) = true ∧ decide ((x : Int) ≤ 70) = false) := by simp; omega
    clear h4 w1 w2 w3 h1 h2 h3
    rcases q1 with q1 | ⟨q1, q1'⟩ <;> rcases q2 with q2 | ⟨q2, q2'⟩ <;> rcases q3 with q3 | ⟨q3, q3'⟩
    all_goals
      go_enter Tryz.func152, Tryz.ntmps152
      go_wp2_with fail
      go_ret
      simp
set_option maxRecDepth 100000 in
set_option maxHeartbeats 1000000 in
theorem digit_any {w : World} {n : Nat} (hn : n < 16) : Calls Tryz.prog 105 #[.int .i64 n] w fun e w' => e = .returned (.string (txt [hexD n])) ∧ Below w.heap.size w w' := by
  by_cases h : n < 10
  · have h' : (n : Int) < 10 := by omega
    have c0 := fun wx => one_text wx (48 + (n : Int)) (48 + n) (by omega) (by omega)
    have e : hexD n = UInt8.ofNat (48 + n) := by unfold hexD; rw [if_pos h]
    rw [← e] at c0
    have b0 : Below w.heap.size w (w.alloc (.cells #[.int .u8 (48 + (n : Int))] 5)) := (Below.refl _ w).alloc (Nat.le_refl _) _
    clear e
    go_enter Tryz.func105, Tryz.ntmps105
    go_wp2_with fail
    go_ret
    exact ⟨rfl, b0⟩
  · have h' : decide ((n : Int) < 10) = false := by simp; omega
    have c0 := fun wx => one_text wx (97 + (n : Int) - 10) (97 + n - 10) (by omega) (by omega)
    have e : hexD n = UInt8.ofNat (97 + n - 10) := by unfold hexD; rw [if_neg h]
    rw [← e] at c0
    have b0 : Below w.heap.size w (w.alloc (.cells #[.int .u8 (97 + (n : Int) - 10)] 5)) := (Below.refl _ w).alloc (Nat.le_refl _) _
    have w1 : IntKind.u8.wrap (97 + (n : Int) - 10) = 97 + (n : Int) - 10 := by simp only [IntKind.wrap, IntKind.signed, IntKind.bits]; simp; omega
    clear e
    go_enter Tryz.func105, Tryz.ntmps105
    go_wp2_with fail
    go_ret
    exact ⟨rfl, b0⟩
theorem unitF_nil {k n : Nat} : unitF (k + 1) n [] = (0, 2) := rfl
theorem unitF_none {k n : Nat} {c : UInt8} {r : List UInt8} (h : hexV c = none) : unitF (k + 1) n (c :: r) = (0, 3) := by unfold unitF; rw [h]
theorem unitF_some {k n d : Nat} {c : UInt8} {r : List UInt8} (h : hexV c = some d) : unitF (k + 1) n (c :: r) = unitF k (n * 16 + d) r := by rw [unitF, h]
set_option maxRecDepth 100000 in
set_option maxHeartbeats 2000000 in
theorem unit_any {w : World} {l : List UInt8} {i : Nat} (_hl : l.length < 1000000) (hi : i < 2000000) :
    Calls Tryz.prog 122 #[.string (txt l), .int .i64 i] w fun e w' => e = .returned (.tuple #[.int .i64 (unit (l.drop i)).1, .int .i64 (unit (l.drop i)).2]) ∧ w' = w := by
  have hs := txt_size l
  go_enter Tryz.func122, Tryz.ntmps122
  go_wp2_with fail
  go_loopw [6, 7] (fun n j wr => ∃ (k v : Nat), k ≤ 4 ∧ j = .int .i64 k ∧ n = .int .i64 v ∧ v < 16 ^ k ∧ unit (l.drop i) = unitF (4 - k) v (l.drop (i + k)) ∧ wr = w) (fun _ j _ => 4 - (intOf j).toNat)
  case atStart => exact ⟨0, 0, by omega, rfl, rfl, by decide, rfl, rfl⟩
  case round =>
    obtain ⟨k, v, hk, rfl, rfl, hv, hu, rfl⟩ := hrel
    have hv4 : v < 65536 := Nat.lt_of_lt_of_le hv (Nat.pow_le_pow_right (n := 16) (by omega) hk)
    by_cases h4 : k < 4
    · have h4' : (k : Int) < 4 := by omega
      have h4'' : decide (k < 4) = true := by simp; omega
      obtain ⟨m, hm⟩ : ∃ m, 4 - k = m + 1 := ⟨3 - k, by omega⟩
      rw [hm] at hu
      obtain ⟨q, hq⟩ : ∃ q, i + k = q := ⟨_, rfl⟩
      have hqi : (i : Int) + (k : Int) = (q : Int) := by omega
      have wq : IntKind.i64.wrap (q : Int) = (q : Int) := by simp only [IntKind.wrap, IntKind.signed, IntKind.bits]; simp; omega
      rw [hq] at hu
      by_cases hlt : q < l.length
      · have hlt' : decide (l.length ≤ q) = false := by simp; omega
        have hix := idx hlt
        have hd : l.drop q = l[q] :: l.drop (q + 1) := List.drop_eq_getElem_cons hlt
        rw [nb_get hlt] at hix
        rw [hd] at hu
        have hx := fun wx => hex_any (w := wx) l[q]
        have hc := hexI_cases l[q]
        cases hh : hexV l[q] with
        | none =>
          rw [unitF_none hh] at hu
          have e := hexI_none hh
          simp only [e] at hx
          generalize (l[q]).toNat = x at *
          have HU := Lib.hid hu
          clear hu hd hc hh e
          go_wp2_with fail
          refine (hx _).mono ?_
          rintro e w1 ⟨rfl, rfl⟩
          go_wp2_with fail
          refine bodyPost_ret (v := .tuple #[.int .i64 0, .int .i64 3]) (by simp [results, Tryz.results122, go_sem]) rfl ⟨by rw [HU.out]; rfl, rfl⟩
        | some d =>
          rw [unitF_some hh] at hu
          obtain ⟨e, hd15⟩ := hexI_some hh
          simp only [e] at hx
          have hv2 : v * 16 + d < 16 ^ (k + 1) := by rw [Nat.pow_succ]; omega
          have hm2 : 4 - (k + 1) = m := by omega
          have hq2 : i + (k + 1) = q + 1 := by omega
          rw [← hm2, ← hq2] at hu
          generalize (l[q]).toNat = x at *
          have HU := Lib.hid hu
          have HV := Lib.hid hv2
          clear hu hd hc hh e hv hv2 hm2 hq2 hm
          go_wp2_with fail
          refine (hx _).mono ?_
          rintro e w1 ⟨rfl, rfl⟩
          go_wp2_with fail
          go_roundw
          case rel => exact ⟨k + 1, v * 16 + d, by omega, by go_num, by go_num, HV.out, HU.out, by first | trivial | rfl⟩
          case measure => simp [intOf]; omega
      · have hlt' : decide (l.length ≤ q) = true := by simp; omega
        have hn : l.drop q = [] := List.drop_eq_nil_of_le (by omega)
        rw [hn, unitF_nil] at hu
        have HU := Lib.hid hu
        clear hu hn
        go_wp2_with fail
        refine bodyPost_ret (v := .tuple #[.int .i64 0, .int .i64 2]) (by simp [results, Tryz.results122, go_sem]) rfl ⟨by rw [HU.out]; rfl, rfl⟩
    · obtain rfl : k = 4 := by omega
      have hu2 : unit (l.drop i) = (v, 0) := hu
      have HU := Lib.hid hu2
      clear hu hu2 hv
      go_wp2_with fail
      refine bodyPost_ret (v := .tuple #[.int .i64 v, .int .i64 0]) (by simp [results, Tryz.results122, go_sem]) rfl ⟨by rw [HU.out]; rfl, rfl⟩
end Go.Proofs.YtlfbnfphocpgeaaGreatDoor.Quo
namespace Go.Proofs.YtlfbnfphocpgeaaGreatDoor.Quo
open Go.RowKit Kit Txt Utf
def Rdr (R : Nat) (l : List UInt8) (w : World) : Prop := w.heap[R]? = some (.cells #[.string (txt l)] 126 (0, 0))
def rp (R : Nat) : Value := .pointer (some ⟨R, 0, none⟩)
def thrown (k : Nat) : Ending := .panicked [{ v := .iface 33 (.int .i64 k), recovered := false }]
theorem Rdr.took {R : Nat} {l m : List UInt8} {w : World} (h : Rdr R l w) : Rdr R m (w.setCell ⟨R, 0, none⟩ (.string (txt m))) := set_of h 0 _
theorem Rdr.kept {R : Nat} {l : List UInt8} {w w' : World} {row : Option Nat} (h : Rdr R l w) (k : w.grownBy w' row) (hr : some R ≠ row) : Rdr R l w' := (k.block R (lt_of_heap h) hr).trans h
theorem Rdr.below {R : Nat} {l : List UInt8} {w w' : World} {B : Nat} (h : Rdr R l w) (k : Below B w w') (hr : R < B) : Rdr R l w' := (k.block R hr).trans h
theorem grownBy.trans {a b c : World} {row : Option Nat} (h : a.grownBy b row) (k : b.grownBy c row) : a.grownBy c row :=
  ⟨k.os.trans h.os, k.tape.trans h.tape, k.output.trans h.output, Nat.le_trans h.size k.size, fun i hi hr => (k.block i (Nat.lt_of_lt_of_le hi h.size) hr).trans (h.block i hi hr)⟩
theorem idx0 (c : UInt8) (r : List UInt8) (wx : World) : (Instr.index 9 (.string (txt (c :: r))) (.int .i64 0)).run Tryz.prog wx = .ok (.int .u8 (c.toNat : Int)) wx := by
  have h := idx (l := c :: r) (i := 0) (by simp) wx
  rwa [nb_get (by simp)] at h
theorem sl1 (c : UInt8) (r : List UInt8) (wx : World) : (Instr.slice 9 (.string (txt (c :: r))) (some (.int .i64 1)) none none).run Tryz.prog wx = .ok (.string (txt r)) wx := slL (l := c :: r) (k := 1) rfl (by simp) wx
set_option maxRecDepth 100000 in
set_option maxHeartbeats 1000000 in
theorem next_cons {w : World} {R : Nat} {c : UInt8} {r : List UInt8} (h : Rdr R (c :: r) w) :
    Calls Tryz.prog 125 #[rp R] w fun e w' => e = .returned (.int .u8 (c.toNat : Int)) ∧ Rdr R r w' ∧ w.grownBy w' (some R) := by
  have hc := cell_of h 0
  have hf := free_of h 0
  have he : (txt (c :: r)).toList.isEmpty = false := by unfold txt; rw [ByteArray.toList_mk]; rfl
  have hi := idx0 c r
  have hs := sl1 c r
  unfold rp
  have hw : Rdr R r (w.setCell ⟨R, 0, none⟩ (.string (txt r))) ∧ w.grownBy (w.setCell ⟨R, 0, none⟩ (.string (txt r))) (some R) := ⟨h.took, grownBy_setCell' _ _ _⟩
  have hW := Lib.hid hw
  clear hw h
  go_enter Tryz.func125, Tryz.ntmps125
  go_wp2_with fail
  go_ret
  exact ⟨rfl, hW.out⟩
set_option maxRecDepth 100000 in
set_option maxHeartbeats 1000000 in
theorem next_nil {w : World} {R : Nat} (h : Rdr R [] w) : Calls Tryz.prog 125 #[rp R] w fun e w' => e = thrown 2 ∧ w' = w := by
  have hc := cell_of h 0
  have he : (txt []).toList = [] := by unfold txt; rw [ByteArray.toList_mk]
  unfold rp thrown
  go_enter Tryz.func125, Tryz.ntmps125
  go_wp2_with fail
  exact ⟨rfl, rfl, rfl⟩
def Takes (R : Nat) (w : World) (k : Nat) (v : Value) (rest : List UInt8) (e : Ending) (w' : World) : Prop := w.grownBy w' (some R) ∧ ((k = 0 ∧ e = .returned v ∧ Rdr R rest w') ∨ (k ≠ 0 ∧ e = thrown k))
theorem Takes.mk {R : Nat} {w : World} {v : Value} {rest : List UInt8} {w' : World} (h : Rdr R rest w') (g : w.grownBy w' (some R)) : Takes R w 0 v rest (.returned v) w' := ⟨g, .inl ⟨rfl, rfl, h⟩⟩
theorem Takes.no {R : Nat} {w : World} {k : Nat} {v : Value} {rest : List UInt8} {w' : World} (h : k ≠ 0) (g : w.grownBy w' (some R)) : Takes R w k v rest (thrown k) w' := ⟨g, .inr ⟨h, rfl⟩⟩
def wantE (c : UInt8) (l : List UInt8) : Nat := match l with
  | [] => 2
  | d :: _ => if d = c then 0 else 3
set_option maxRecDepth 100000 in
set_option maxHeartbeats 1000000 in
theorem mwant_any {w : World} {R : Nat} {c : UInt8} {l : List UInt8} {x : Int} (h : Rdr R l w) (hx : x = (c.toNat : Int)) :
    Calls Tryz.prog 123 #[rp R, .int .u8 x] w fun e w' => Takes R w (wantE c l) (.tuple #[]) l.tail e w' := by
  cases l with
  | nil =>
    have hn := next_nil h
    unfold rp at *
    go_enter Tryz.func123, Tryz.ntmps123
    go_wp2_with fail
    refine hn.mono ?_
    rintro e w1 ⟨rfl, rfl⟩
    exact ⟨rfl, .no (Nat.succ_ne_zero 1) (World.grownBy.refl _ _)⟩
  | cons d r =>
    have hn := next_cons h
    unfold rp at *
    by_cases hd : d = c
    · have e1 : ((d.toNat : Int) != x) = false := by rw [hx, hd]; simp
      have e0 : wantE c (d :: r) = 0 := if_pos hd
      rw [e0]
      clear hd hx e0
      go_enter Tryz.func123, Tryz.ntmps123
      go_wp2_with fail
      refine hn.mono ?_
      rintro e w1 ⟨rfl, k1, k2⟩
      go_wp2_with fail
      go_end0
      exact .mk k1 k2
    · have e1 : ((d.toNat : Int) != x) = true := by
        rw [hx]
        simp
        intro e
        exact hd (UInt8.toNat_inj.1 (by omega))
      have e0 : wantE c (d :: r) = 3 := if_neg hd
      rw [e0]
      clear hd hx e0
      go_enter Tryz.func123, Tryz.ntmps123
      go_wp2_with fail
      refine hn.mono ?_
      rintro e w1 ⟨rfl, k1, k2⟩
      go_wp2_with fail
      exact ⟨rfl, .no (by decide) k2⟩
def digE (l : List UInt8) : Nat := match l with
  | [] => 2
  | c :: _ => match hexV c with
    | none => 3
    | some _ => 0
def digV (l : List UInt8) : Nat := match l with
  | [] => 0
  | c :: _ => (hexV c).getD 0
set_option maxRecDepth 100000 in
set_option maxHeartbeats 1000000 in
theorem mdigit_any {w : World} {R : Nat} {l : List UInt8} (h : Rdr R l w) :
    Calls Tryz.prog 202 #[rp R] w fun e w' => Takes R w (digE l) (.int .i64 (digV l : Int)) l.tail e w' := by
  cases l with
  | nil =>
    have hn := next_nil h
    unfold rp at *
    go_enter Tryz.func202, Tryz.ntmps202
    go_wp2_with fail
    refine hn.mono ?_
    rintro e w1 ⟨rfl, rfl⟩
    exact ⟨rfl, .no (by decide) (World.grownBy.refl _ _)⟩
  | cons c r =>
    have hn := next_cons h
    unfold rp at *
    have hlt : c.toNat < 256 := c.toNat_lt
    have hc := hexI_cases c
    have hE : (hexV c = none ∧ hexI c = -1 ∧ digE (c :: r) = 3) ∨ (∃ d, hexV c = some d ∧ hexI c = d ∧ digE (c :: r) = 0 ∧ digV (c :: r) = d) := by
      cases hv : hexV c with
      | none => exact .inl ⟨rfl, hexI_none hv, by unfold digE; dsimp only; rw [hv]⟩
      | some d => exact .inr ⟨d, rfl, (hexI_some hv).1, by unfold digE; dsimp only; rw [hv], by unfold digV; dsimp only; rw [hv]; rfl⟩
    rw [List.tail_cons]
    generalize digE (c :: r) = ee at *
    generalize digV (c :: r) = dd at *
    generalize c.toNat = x at *
    have w1 : 48 ≤ x → IntKind.u8.wrap ((x : Int) - 48) = (x : Int) - 48 := fun h => by simp only [IntKind.wrap, IntKind.signed, IntKind.bits]; simp; omega
    have w2 : 97 ≤ x → IntKind.u8.wrap ((x : Int) - 97) = (x : Int) - 97 := fun h => by simp only [IntKind.wrap, IntKind.signed, IntKind.bits]; simp; omega
    have w3 : 65 ≤ x → IntKind.u8.wrap ((x : Int) - 65) = (x : Int) - 65 := fun h => by simp only [IntKind.wrap, IntKind.signed, IntKind.bits]; simp; omega
    rcases hc with ⟨h1, h2, h3⟩ | ⟨h1, h2, h3⟩ | ⟨h1, h2, h3⟩ | ⟨h1, h2, h3, h4⟩
    · rcases hE with ⟨_, k, _⟩ | ⟨d, -, k, rfl, rfl⟩
      · exfalso; omega
      have e : (dd : Int) = (x : Int) - 48 := by omega
      rw [e]
      have w1 := w1 h1
      have d1 : (48 : Int) ≤ (x : Int) := by omega
      have d2 : (x : Int) ≤ 57 := by omega
      clear h3 w2 w3 k e
      go_enter Tryz.func202, Tryz.ntmps202
      go_wp2_with fail
      refine hn.mono ?_
      rintro e w1 ⟨rfl, k1, k2⟩
      go_wp2_with fail
      go_ret
      exact .mk k1 k2
    · rcases hE with ⟨_, k, _⟩ | ⟨d, -, k, rfl, rfl⟩
      · exfalso; omega
      have e : (dd : Int) = (x : Int) - 97 + 10 := by omega
      rw [e]
      have w2 := w2 h1
      have d0 : decide ((x : Int) ≤ 57) = false := by simp; omega
      have d3 : (48 : Int) ≤ (x : Int) := by omega
      have d1 : (97 : Int) ≤ (x : Int) := by omega
      have d2 : (x : Int) ≤ 102 := by omega
      have w4 : IntKind.i64.wrap ((x : Int) - 97 + 10) = (x : Int) - 97 + 10 := by simp only [IntKind.wrap, IntKind.signed, IntKind.bits]; simp; omega
      clear h3 w1 w3 k e
      go_enter Tryz.func202, Tryz.ntmps202
      go_wp2_with fail
      refine hn.mono ?_
      rintro e w1 ⟨rfl, k1, k2⟩
      go_wp2_with fail
      go_ret
      exact .mk k1 k2
    · rcases hE with ⟨_, k, _⟩ | ⟨d, -, k, rfl, rfl⟩
      · exfalso; omega
      have e : (dd : Int) = (x : Int) - 65 + 10 := by omega
      rw [e]
      have w3 := w3 h1
      have d0 : decide ((x : Int) ≤ 57) = false := by simp; omega
      have d3 : (48 : Int) ≤ (x : Int) := by omega
      have d4 : decide ((97 : Int) ≤ (x : Int)) = false := by simp; omega
      have d1 : (65 : Int) ≤ (x : Int) := by omega
      have d2 : (x : Int) ≤ 70 := by omega
      have w4 : IntKind.i64.wrap ((x : Int) - 65 + 10) = (x : Int) - 65 + 10 := by simp only [IntKind.wrap, IntKind.signed, IntKind.bits]; simp; omega
      clear h3 w1 w2 k e
      go_enter Tryz.func202, Tryz.ntmps202
      go_wp2_with fail
      refine hn.mono ?_
      rintro e w1 ⟨rfl, k1, k2⟩
      go_wp2_with fail
      go_ret
      exact .mk k1 k2
    · rcases hE with ⟨-, -, rfl⟩ | ⟨d, -, k, -, -⟩
      case inr => exfalso; omega
      clear w1 w2 w3 h4
      by_cases a1 : x < 48
      · have d1 : decide ((48 : Int) ≤ (x : Int)) = false := by simp; omega
        have d2 : decide ((97 : Int) ≤ (x : Int)) = false := by simp; omega
        have d3 : decide ((65 : Int) ≤ (x : Int)) = false := by simp; omega
        go_enter Tryz.func202, Tryz.ntmps202
        go_wp2_with fail
        refine hn.mono ?_
        rintro e w1 ⟨rfl, k1, k2⟩
        go_wp2_with fail
        exact ⟨rfl, .no (by decide) k2⟩
      by_cases a2 : x < 65
      · have d1 : (48 : Int) ≤ (x : Int) := by omega
        have d4 : decide ((x : Int) ≤ 57) = false := by simp; omega
        have d2 : decide ((97 : Int) ≤ (x : Int)) = false := by simp; omega
        have d3 : decide ((65 : Int) ≤ (x : Int)) = false := by simp; omega
        go_enter Tryz.func202, Tryz.ntmps202
        go_wp2_with fail
        refine hn.mono ?_
        rintro e w1 ⟨rfl, k1, k2⟩
        go_wp2_with fail
        exact ⟨rfl, .no (by decide) k2⟩
      by_cases a3 : x < 97
      · have d1 : (48 : Int) ≤ (x : Int) := by omega
        have d4 : decide ((x : Int) ≤ 57) = false := by simp; omega
        have d2 : decide ((97 : Int) ≤ (x : Int)) = false := by simp; omega
        have d3 : (65 : Int) ≤ (x : Int) := by omega
        have d5 : decide ((x : Int) ≤ 70) = false := by simp; omega
        go_enter Tryz.func202, Tryz.ntmps202
        go_wp2_with fail
        refine hn.mono ?_
        rintro e w1 ⟨rfl, k1, k2⟩
        go_wp2_with fail
        exact ⟨rfl, .no (by decide) k2⟩
      · have d1 : (48 : Int) ≤ (x : Int) := by omega
        have d4 : decide ((x : Int) ≤ 57) = false := by simp; omega
        have d2 : (97 : Int) ≤ (x : Int) := by omega
        have d6 : decide ((x : Int) ≤ 102) = false := by simp; omega
        have d3 : (65 : Int) ≤ (x : Int) := by omega
        have d5 : decide ((x : Int) ≤ 70) = false := by simp; omega
        go_enter Tryz.func202, Tryz.ntmps202
        go_wp2_with fail
        refine hn.mono ?_
        rintro e w1 ⟨rfl, k1, k2⟩
        go_wp2_with fail
        exact ⟨rfl, .no (by decide) k2⟩
end Go.Proofs.YtlfbnfphocpgeaaGreatDoor.Quo
