/- Facts of lists about reading a quoted text piece by piece: the scalars that stand as they are, up to one that doesn't. Nothing is claimed here. -/
import Derived.Test.YtehpjidajmoggaaGreatDoorQuoPrint
namespace Go.Proofs.YtehpjidajmoggaaGreatDoor.Quo
open Utf

/-- A scalar that stands in a quoted text as it is. -/
def AsIs (c : Nat) : Prop := 32 ≤ c ∧ c ≠ 34 ∧ c ≠ 92
instance (c : Nat) : Decidable (AsIs c) := by unfold AsIs; exact inferInstance

theorem part_plain {c : Nat} (hc : Scalar c) (h : AsIs c) (r : List UInt8) : part (enc c ++ r) = ⟨enc c, (enc c).length, 0⟩ ∧ (enc c ++ r).head? ≠ some 34 := by
  have hs := h
  unfold AsIs at hs
  by_cases h1 : c < 128
  · have e : (UInt8.ofNat c).toNat = c := nbc (by omega)
    have hb := enc_byte (x := UInt8.ofNat c) (by omega)
    rw [e] at hb
    have h92 : UInt8.ofNat c ≠ 92 := by
      intro k
      rw [k] at e
      exact hs.2.2 e.symm
    have h34 : UInt8.ofNat c ≠ 34 := by
      intro k
      rw [k] at e
      exact hs.2.1 e.symm
    have ho := one_enc hc r
    rw [hb] at ho ⊢
    refine ⟨?_, by simpa using h34⟩
    show part (UInt8.ofNat c :: r) = _
    have ho' : one (UInt8.ofNat c :: r) = (c, 1) := ho
    unfold part
    dsimp only
    rw [if_neg (by omega), if_pos h92, ho']
    dsimp only
    rw [if_neg (by omega)]
    rfl
  · refine ⟨part_hi hc (by omega) r, ?_⟩
    have hl := enc_len (c := c)
    obtain ⟨b, t, e⟩ := List.exists_cons_of_ne_nil (show enc c ≠ [] by intro e; rw [e] at hl; simp at hl)
    have hb0 := enc_hi hc (by omega) b (by rw [e]; simp)
    rw [e]
    simp
    rintro rfl
    revert hb0
    decide
theorem not_asIs_lt {c : Nat} (h : ¬ AsIs c) : c < 128 := by
  unfold AsIs at h
  omega
/-- What doesn't begin a scalar isn't below 128. -/
theorem one_hi {c : UInt8} {r : List UInt8} (h : (one (c :: r)).2 = 0) : 128 ≤ c.toNat := by
  by_cases h1 : c.toNat < 128
  · exfalso
    have := one_enc (c := c.toNat) (by unfold Scalar; omega) r
    rw [enc_byte h1] at this
    have e : one (c :: r) = (c.toNat, 1) := this
    rw [e] at h
    cases h
  · omega
theorem part_bad {l : List UInt8} (hne : l ≠ []) (h : (one l).2 = 0) : part l = err 7 ∧ l.head? ≠ some 34 := by
  obtain ⟨c, r, rfl⟩ := List.exists_cons_of_ne_nil hne
  have h1 := one_hi h
  constructor
  · unfold part
    dsimp only
    rw [if_neg (by omega), if_pos (by rintro rfl; revert h1; decide), if_pos h]
  · simp
    rintro rfl
    revert h1
    decide

/-- Up to a scalar that doesn't stand as it is. -/
theorem scan_till : ∀ (n : Nat) (l : List UInt8), l.length = n → ∀ (p k c : Nat) (pre suf : List (Nat × Nat)), (Utf.scan p l).1 = pre ++ (k, c) :: suf → (∀ x ∈ pre, AsIs x.2) → ¬ AsIs c →
    ∃ m r, k = p + m ∧ m ≤ l.length ∧ l.drop m = UInt8.ofNat c :: r ∧ ∀ s at', scanF s at' l = scanF (s ++ l.take m) (at' + m) (l.drop m) := by
  intro n
  induction n using Nat.strongRecOn with
  | ind n ih =>
    intro l hl p k c pre suf h hpre hc
    rcases scan_cases l with rfl | ⟨hne, h0⟩ | ⟨d, r, hd, rfl, ho, hr⟩
    · rw [scan_nil] at h
      simp at h
    · rw [scan_bad hne h0] at h
      simp at h
    · rw [scan_enc hd r] at h
      cases pre with
      | nil =>
        rw [List.nil_append] at h
        injection h with h1 h2
        injection h1 with h3 h4
        subst h3; subst h4
        have hb := enc_byte (x := UInt8.ofNat d) (by rw [nbc (by have := not_asIs_lt hc; omega)]; exact not_asIs_lt hc)
        rw [nbc (by have := not_asIs_lt hc; omega)] at hb
        exact ⟨0, r, rfl, Nat.zero_le _, by rw [hb]; rfl, fun s at' => by simp⟩
      | cons x pre' =>
        rw [List.cons_append] at h
        injection h with h1 h2
        have hx := hpre x (by simp)
        rw [← h1] at hx
        obtain ⟨m, r', e1, e2, e3, e4⟩ := ih r.length (by rw [List.length_append] at hl; have := (enc_len (c := d)).1; omega) r rfl (p + (enc d).length) k c pre' suf h2 (fun y hy => hpre y (by simp [hy])) hc
        have hp := part_plain hd hx r
        have hdr : (enc d ++ r).drop ((enc d).length + m) = r.drop m := by rw [List.drop_append]; simp
        refine ⟨(enc d).length + m, r', by omega, by rw [List.length_append]; omega, by rw [hdr]; exact e3, fun s at' => ?_⟩
        rw [scanF_on hp.2 (by rw [hp.1]), hp.1]
        dsimp only
        have htk : (enc d ++ r).take ((enc d).length + m) = enc d ++ r.take m := by
          rw [List.take_append, List.take_of_length_le (by omega), Nat.add_sub_cancel_left]
        rw [List.drop_left, e4, hdr, htk, List.append_assoc, Nat.add_assoc]
/-- Nothing but scalars that stand as they are. -/
theorem scan_thro : ∀ (n : Nat) (l : List UInt8), l.length = n → ∀ (p : Nat), (∀ x ∈ (Utf.scan p l).1, AsIs x.2) → ∀ s at', scanF s at' l = err (if (Utf.scan p l).2 = none then 2 else 7) := by
  intro n
  induction n using Nat.strongRecOn with
  | ind n ih =>
    intro l hl p h s at'
    rcases scan_cases l with rfl | ⟨hne, h0⟩ | ⟨d, r, hd, rfl, ho, hr⟩
    · rw [scan_nil, if_pos rfl, scanF_err (by simp) (by decide)]
      rfl
    · have hp := part_bad hne h0
      rw [scan_bad hne h0, if_neg (by simp), scanF_err hp.2 (by rw [hp.1]; decide), hp.1]
      rfl
    · rw [scan_enc hd r] at h ⊢
      have hx := h (p, d) (by simp)
      have hp := part_plain hd hx r
      rw [scanF_on hp.2 (by rw [hp.1]), hp.1]
      dsimp only
      rw [List.drop_left]
      exact ih r.length (by rw [List.length_append] at hl; have := (enc_len (c := d)).1; omega) r rfl (p + (enc d).length) (fun y hy => h y (by simp [hy])) _ _
theorem all_till {l : List UInt8} {k c : Nat} {pre suf : List (Nat × Nat)} (h : all l = pre ++ (k, c) :: suf) (hpre : ∀ x ∈ pre, AsIs x.2) (hc : ¬ AsIs c) :
    k ≤ l.length ∧ (∃ r, l.drop k = UInt8.ofNat c :: r) ∧ ∀ s at', scanF s at' l = scanF (s ++ l.take k) (at' + k) (l.drop k) := by
  obtain ⟨m, r, e1, e2, e3, e4⟩ := scan_till l.length l rfl 0 k c pre suf h hpre hc
  obtain rfl : k = m := by omega
  exact ⟨e2, ⟨r, e3⟩, e4⟩
theorem all_thro {l : List UInt8} (h : ∀ x ∈ all l, AsIs x.2) (s : List UInt8) (at' : Nat) : scanF s at' l = err (if bad l = none then 2 else 7) := scan_thro l.length l rfl 0 h s at'
theorem scanF_no : ∀ (k : Nat) (l : List UInt8), l.length = k → ∀ (s : List UInt8) (at' : Nat), (scanF s at' l).e ≠ 0 → scanF s at' l = err (scanF s at' l).e := by
  intro k
  induction k using Nat.strongRecOn with
  | ind k ih =>
    intro l hl s at' h
    by_cases h1 : l.head? = some 34
    · rw [scanF_end h1] at h
      exact absurd rfl h
    · by_cases he : (part l).e = 0
      · rw [scanF_on h1 he] at h ⊢
        obtain ⟨c, k1, k2, k3, k4⟩ := part_ok he
        exact ih (l.drop (part l).size).length (by rw [List.length_drop]; omega) _ rfl _ _ h
      · rw [scanF_err h1 he]
        rfl
theorem scan_err_nil {l : List UInt8} (h : (scan l).e ≠ 0) : scan l = err (scan l).e := by
  unfold scan at h ⊢
  split at h
  · rfl
  · split at h
    · rename_i c r hc
      rw [if_pos hc]
      rfl
    · rename_i c r hc
      rw [if_neg hc]
      exact scanF_no r.length r rfl [] 1 h
end Go.Proofs.YtehpjidajmoggaaGreatDoor.Quo
