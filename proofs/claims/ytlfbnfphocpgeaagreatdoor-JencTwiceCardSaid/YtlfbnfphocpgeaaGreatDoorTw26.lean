/- A part of what twice_holds leans on (its texts, put together). Nothing is claimed here. -/
import Derived.Test.YtlfbnfphocpgeaaGreatDoorTw25
namespace Go.Proofs.YtlfbnfphocpgeaaGreatDoor.Jenc
open Tre (Val Whole Wholes deep deeps sort)
open Jdec (Got value items made field skip Stop)
def Stops (t : List UInt8) : Prop := t = [] ∨ t.head? = some 44 ∨ t.head? = some 93 ∨ t.head? = some 125
theorem Stops.stop {t : List UInt8} (h : Stops t) : Stop t := by
  intro c hc
  rcases h with rfl | h | h | h
  · cases hc
  all_goals
    rw [h] at hc
    injection hc with hc
    subst hc
    decide
theorem prt_head (v : Val) (d : Nat) (h : Whole v) : ∃ c r, prt false d v = c :: r ∧ Jdec.blank c = false ∧ Jdec.begins c = true ∧ (v.kind = 3 ↔ Jdec.digit c = true) ∧ (v.kind = 1 → c = 110) ∧ (v.kind = 2 → c = if v.is then 116 else 102) ∧ (v.kind = 4 → c = 34) ∧ (v.kind = 5 → c = 91) ∧ (v.kind = 6 → c = 123) := by
  obtain ⟨k, i, n, s, ks, vs⟩ := v
  rw [Whole] at h
  obtain ⟨ho, -⟩ := h
  have hr : Num.Right n := ho.2.2.2.2.2.2.2.1
  have l1 : 1 ≤ k := ho.1
  have l2 : k ≤ 6 := ho.2.1
  show ∃ c r, _ ∧ _ ∧ _ ∧ (k = 3 ↔ _) ∧ (k = 1 → _) ∧ (k = 2 → c = if i then 116 else 102) ∧ (k = 4 → _) ∧ (k = 5 → _) ∧ (k = 6 → _)
  rw [prt]
  by_cases h1 : k = 1
  · subst h1
    exact ⟨_, _, rfl, by decide, by decide, by decide, by decide, fun e => absurd e (by decide), by decide, by decide, by decide⟩
  rw [if_neg h1]
  by_cases h2 : k = 2
  · subst h2
    rw [if_pos rfl]
    cases i
    · exact ⟨_, _, rfl, by decide, by decide, by decide, by decide, by decide, by decide, by decide, by decide⟩
    · exact ⟨_, _, rfl, by decide, by decide, by decide, by decide, by decide, by decide, by decide, by decide⟩
  rw [if_neg h2]
  by_cases h3 : k = 3
  · subst h3
    rw [if_pos rfl]
    obtain ⟨p1, p2, p3⟩ := Num.parse_print hr
    cases hp : Num.print n with
    | nil => exact absurd hp p3
    | cons c r =>
      have hd : Jdec.digit c = true := by
        apply Decidable.byContradiction
        intro hd
        have : Num.scan (Num.print n) = 0 := by
          rw [hp]
          unfold Num.scan Num.neg0
          rw [Num.nb_zero]
          have hd : ¬ (48 ≤ c.toNat ∧ c.toNat ≤ 57) ∧ ¬ c = 45 := by simpa [Jdec.digit] using hd
          have hc45 : c.toNat ≠ 45 := fun e => hd.2 (UInt8.toNat_inj.1 e)
          rw [if_neg hc45, if_neg]
          unfold Num.DigAt
          rw [Num.nb_zero]
          exact hd.1
        rw [p2, hp] at this
        cases this
      refine ⟨c, r, rfl, ?_, by unfold Jdec.begins; rw [hd]; simp, by simp [hd], fun e => absurd e (by decide), fun e => absurd e (by decide), fun e => absurd e (by decide), fun e => absurd e (by decide), fun e => absurd e (by decide)⟩
      unfold Jdec.digit at hd
      unfold Jdec.blank
      rw [decide_eq_false_iff_not]
      rintro (rfl | rfl | rfl | rfl) <;> revert hd <;> decide
  rw [if_neg h3]
  by_cases h4 : k = 4
  · subst h4
    rw [if_pos rfl]
    exact ⟨34, _, rfl, by decide, by decide, by decide, by decide, fun e => absurd e (by decide), by decide, by decide, by decide⟩
  rw [if_neg h4]
  by_cases h6 : k = 6
  · subst h6
    exact ⟨123, _, rfl, by decide, by decide, by decide, by decide, fun e => absurd e (by decide), by decide, by decide, by decide⟩
  · obtain rfl : k = 5 := by omega
    exact ⟨91, _, rfl, by decide, by decide, by decide, by decide, fun e => absurd e (by decide), by decide, by decide, by decide⟩
theorem skip_on {c : UInt8} {r : List UInt8} (h : Jdec.blank c = false) : skip (c :: r) = c :: r := by
  unfold skip
  rw [List.dropWhile_cons, if_neg (by rw [h]; decide)]
theorem skip_prt (v : Val) (d : Nat) (h : Whole v) (t : List UInt8) : skip (prt false d v ++ t) = prt false d v ++ t := by
  obtain ⟨c, r, e, hb, _⟩ := prt_head v d h
  rw [e]
  exact skip_on hb
theorem field_print {keys : List (List UInt8)} {k : List UInt8} {r : List UInt8} (hk : Utf.bad k = none) (hn : k ∉ keys) (hr : skip r = r) : field keys (Quo.print k ++ (58 :: r)) = .ok k r := by
  unfold field
  have hs := Quo.scan_print hk (58 :: r)
  rw [if_neg (by unfold Quo.print; simp), hs]
  dsimp only
  have h58 : Jdec.blank 58 = false := by decide
  rw [if_neg (by simp), if_neg hn, List.drop_left, skip_on h58, if_neg (by simp), List.tail_cons, hr]
theorem number_print {n : Num.Dec} (h : Num.Right n) {t : List UInt8} (ht : Stop t) : Jdec.number (Num.print n ++ t) = .ok ⟨3, false, n, [], [], []⟩ t := by
  obtain ⟨p1, p2, p3⟩ := Num.parse_print h
  have hl := List.length_pos_iff.2 p3
  have hs : Num.scan (Num.print n ++ t) = (Num.print n).length := by
    rw [← p2]
    refine Jdec.scan_left (by omega) (Jdec.stop_at (by omega) ?_)
    rw [p2, List.drop_length]
    exact ht
  unfold Jdec.number
  rw [hs, if_neg (by omega), List.take_left, p1, if_neg (by simp), List.drop_left]
theorem text_print {s : List UInt8} (h : Utf.bad s = none) {t : List UInt8} : Jdec.text (Quo.print s ++ t) = .ok ⟨4, false, Num.zero, s, [], []⟩ t := by
  unfold Jdec.text
  rw [Quo.scan_print h, if_neg (by simp), List.drop_left]
theorem word_print (v : Val) : ∀ (w t : List UInt8), Jdec.word v w (w ++ t) = .ok v t
  | [], t => by rw [List.nil_append, Jdec.word]
  | c :: w, t => by
    rw [List.cons_append, Jdec.word, if_pos rfl]
    exact word_print v w t
theorem prts_stops (d : Nat) (obj : Bool) (ks : List (List UInt8)) (vs : List Val) (t : List UInt8) : Stops (prts false d obj false ks vs ++ (Jdec.close obj :: t)) := by
  cases vs with
  | nil =>
    rw [prts]
    cases obj
    · exact .inr (.inr (.inl rfl))
    · exact .inr (.inr (.inr rfl))
  | cons v r =>
    rw [prts]
    exact .inr (.inl rfl)
mutual
theorem value_print : ∀ (v : Val) (d K : Nat) (t : List UInt8), Whole v → deep v ≤ K → Stops t → value K (prt false d v ++ t) = .ok v t
  | ⟨k, i, n, s, ks, vs⟩, d, K, t, hv, hK, ht => by
    obtain ⟨c, r, e, hb, hbeg, h3, h1, h2, h4, h5, h6⟩ := prt_head _ d hv
    have hv' := hv
    rw [Whole] at hv
    obtain ⟨⟨l1, l2, a2, a3, a4, a5, a6, hr, hbad, hlen, hkb, hnd⟩, hw⟩ := hv
    change 1 ≤ k at l1
    change k ≤ 6 at l2
    change k ≠ 2 → i = false at a2
    change k ≠ 3 → n = Num.zero at a3
    change k ≠ 4 → s = [] at a4
    change k < 5 → vs = [] at a5
    change k ≠ 6 → ks = [] at a6
    change k = 3 ↔ _ at h3
    change k = 1 → _ at h1
    change k = 2 → c = (if i then 116 else 102) at h2
    change k = 4 → _ at h4
    change k = 5 → _ at h5
    change k = 6 → _ at h6
    rw [Tre.deep_eq] at hK
    change (if k = 5 ∨ k = 6 then deeps vs else 0) + 1 ≤ K at hK
    obtain ⟨K', rfl⟩ : ∃ K', K = K' + 1 := ⟨K - 1, by omega⟩
    have hhead : (prt false d ⟨k, i, n, s, ks, vs⟩ ++ t).head? = some c := by rw [e]; rfl
    unfold value
    rw [hhead]
    dsimp only
    rw [if_pos hbeg]
    unfold Jdec.read
    rw [hhead]
    dsimp only
    rw [prt]
    by_cases e3 : k = 3
    · rw [if_pos (h3.1 e3)]
      subst e3
      rw [a2 (by decide), a4 (by decide), a5 (by decide), a6 (by decide)]
      exact number_print hr ht.stop
    rw [if_neg (fun h => e3 (h3.2 h))]
    by_cases e1 : k = 1
    · subst e1
      rw [if_pos (h1 rfl), if_pos rfl, a2 (by decide), a3 (by decide), a4 (by decide), a5 (by decide), a6 (by decide)]
      exact word_print _ _ _
    rw [if_neg e1]
    by_cases e2 : k = 2
    · subst e2
      rw [a3 (by decide), a4 (by decide), a5 (by decide), a6 (by decide), h2 rfl]
      cases i
      · rw [if_neg (by decide), if_neg (by decide), if_pos (by decide), if_pos rfl]
        exact word_print _ _ _
      · rw [if_neg (by decide), if_pos (by decide), if_pos rfl]
        exact word_print _ _ _
    rw [if_neg e2, if_neg e3]
    by_cases e4 : k = 4
    · subst e4
      rw [h4 rfl, a2 (by decide), a3 (by decide), a5 (by decide), a6 (by decide)]
      rw [if_neg (by decide), if_neg (by decide), if_neg (by decide), if_pos rfl, if_pos rfl]
      exact text_print hbad
    rw [if_neg e4]
    have e56 : k = 5 ∨ k = 6 := by omega
    rw [if_pos e56] at hK
    have hcc : c = opener (decide (k = 6)) := by
      rcases e56 with rfl | rfl
      · exact h5 rfl
      · exact h6 rfl
    have hm : made (decide (k = 6)) ks vs = ⟨k, i, n, s, ks, vs⟩ := by
      rw [a2 e2, a3 e3, a4 e4]
      unfold made
      rcases e56 with rfl | rfl <;> rfl
    rw [← hm]
    have hlen' : decide (k = 6) = true → ks.length = vs.length := fun e => hlen (of_decide_eq_true e)
    have hks : decide (k = 6) = false → ks = [] := fun e => a6 (of_decide_eq_false e)
    generalize decide (k = 6) = obj at *
    subst hcc
    rw [if_neg (by cases obj <;> decide), if_neg (by cases obj <;> decide), if_neg (by cases obj <;> decide), if_neg (by cases obj <;> decide)]
    unfold Jdec.many
    rw [List.cons_append, List.head?_cons, List.tail_cons, show decide (some (opener obj) = some 123) = obj by cases obj <;> decide]
    cases vs with
    | nil =>
      have hks0 : ks = [] := by
        cases obj with
        | true => exact List.length_eq_zero_iff.1 (by simpa using hlen' rfl)
        | false => exact hks rfl
      subst hks0
      have hcb : Jdec.blank (Jdec.close obj) = false := by cases obj <;> decide
      rw [prts, List.isEmpty_nil, if_pos rfl, List.nil_append, List.nil_append, List.singleton_append, skip_on hcb, if_pos (by rw [List.head?_cons]), List.tail_cons]
    | cons v r =>
      simp only [List.isEmpty_cons, Bool.false_eq_true, if_false, brk_false, List.nil_append]
      rw [List.append_assoc, List.singleton_append]
      have hsk : skip (prts false (d + 1) obj true ks (v :: r) ++ (Jdec.close obj :: t)) = prts false (d + 1) obj true ks (v :: r) ++ (Jdec.close obj :: t) := by
        rw [prts, brk_false]
        rw [Wholes] at hw
        cases obj with
        | false => simpa using skip_prt v (d + 1) hw.1 _
        | true => exact skip_on (c := 34) (by decide)
      have hhd : (prts false (d + 1) obj true ks (v :: r) ++ (Jdec.close obj :: t)).head? ≠ some (Jdec.close obj) := by
        rw [prts, brk_false]
        rw [Wholes] at hw
        cases obj with
        | false =>
          obtain ⟨c, r2, e, hb, hbeg, _⟩ := prt_head v (d + 1) hw.1
          simp only [if_true, List.nil_append, e, List.cons_append]
          intro e9
          injection e9 with e9
          subst e9
          exact absurd hbeg (by decide)
        | true =>
          show some (34 : UInt8) ≠ some 125
          decide
      rw [hsk, if_neg hhd]
      have := vals_print (v :: r) (d + 1) K' obj ks [] [] t hw (Tre.deeps_le.1 (by omega)) (by simp) hlen' hks hkb hnd
      simpa using this
theorem vals_print : ∀ (vs : List Val) (d K : Nat) (obj : Bool) (ks keys : List (List UInt8)) (kids : List Val) (t : List UInt8), Wholes vs → (∀ v ∈ vs, deep v ≤ K) → vs ≠ [] → (obj = true → ks.length = vs.length) → (obj = false → ks = []) → (∀ x ∈ ks, Utf.bad x = none) → (keys ++ ks).Nodup →
    items (value K) obj keys kids (prts false d obj true ks vs ++ (Jdec.close obj :: t)) = .ok (made obj (keys ++ ks) (kids ++ vs)) t
  | [], _, _, _, _, _, _, _, _, _, h, _, _, _, _ => absurd rfl h
  | v :: r, d, K, obj, ks, keys, kids, t, hw, hd, _, hl, hk0, hkb, hnd => by
    rw [Wholes] at hw
    obtain ⟨h1, h2⟩ := hw
    have hst := prts_stops d obj ks.tail r t
    have hv := value_print v d K (prts false d obj false ks.tail r ++ (Jdec.close obj :: t)) h1 (hd v (by simp)) hst
    -- the key
    obtain ⟨ks1, ek, hsum⟩ : ∃ ks1, Jdec.named obj keys (prts false d obj true ks (v :: r) ++ (Jdec.close obj :: t)) = .ok ks1 (prt false d v ++ (prts false d obj false ks.tail r ++ (Jdec.close obj :: t))) ∧ ks1 ++ ks.tail = keys ++ ks := by
      cases obj with
      | false =>
        refine ⟨keys, ?_, by rw [hk0 rfl]; rfl⟩
        unfold Jdec.named
        rw [prts, brk_false]
        simp
      | true =>
        obtain ⟨k, ks, rfl⟩ : ∃ k ks', ks = k :: ks' := by
          cases ks with
          | nil => exact absurd (hl rfl) (by simp)
          | cons k ks' => exact ⟨k, ks', rfl⟩
        have hkn : k ∉ keys := by
          intro hm
          exact (List.nodup_append.1 hnd).2.2 k hm k (by simp) rfl
        have hf := field_print (keys := keys) (k := k) (r := prt false d v ++ (prts false d true false ks r ++ (Jdec.close true :: t))) (hkb k (by simp)) hkn (skip_prt v d h1 _)
        refine ⟨keys ++ [k], ?_, by simp⟩
        unfold Jdec.named
        rw [prts, brk_false]
        have e : (if true = true then [] else [44]) ++ ([] ++ ((if true = true then key false ((k :: ks).headD []) else []) ++ (prt false d v ++ prts false d true false (k :: ks).tail r))) ++ (Jdec.close true :: t) = Quo.print k ++ (58 :: (prt false d v ++ (prts false d true false ks r ++ (Jdec.close true :: t)))) := by
          simp [key]
        rw [e, if_pos rfl, hf]
        rfl
    unfold items
    rw [ek]
    dsimp only
    rw [hv]
    dsimp only
    cases r with
    | nil =>
      have hcb : Jdec.blank (Jdec.close obj) = false := by cases obj <;> decide
      have hkt : ks.tail = [] := by
        cases obj with
        | true =>
          have := hl rfl
          apply List.length_eq_zero_iff.1
          rw [List.length_tail, this]
          rfl
        | false => rw [hk0 rfl]; rfl
      rw [prts, List.nil_append, skip_on hcb, if_pos (by rw [List.head?_cons]), List.tail_cons]
      rw [hkt, List.append_nil] at hsum
      rw [hsum]
    | cons v2 r2 =>
      have e44 : prts false d obj false ks.tail (v2 :: r2) ++ (Jdec.close obj :: t) = 44 :: (prts false d obj true ks.tail (v2 :: r2) ++ (Jdec.close obj :: t)) := by
        rw [prts, prts]
        rfl
      have hsk : skip (prts false d obj true ks.tail (v2 :: r2) ++ (Jdec.close obj :: t)) = prts false d obj true ks.tail (v2 :: r2) ++ (Jdec.close obj :: t) := by
        rw [prts, brk_false]
        rw [Wholes] at h2
        cases obj with
        | false => simpa using skip_prt v2 d h2.1 _
        | true => exact skip_on (c := 34) (by decide)
      have h44 : Jdec.blank 44 = false := by decide
      have hc44 : some (44 : UInt8) ≠ some (Jdec.close obj) := by cases obj <;> decide
      have hlt : (prts false d obj true ks.tail (v2 :: r2) ++ (Jdec.close obj :: t)).length < (prts false d obj true ks (v :: v2 :: r2) ++ (Jdec.close obj :: t)).length := by
        rw [show prts false d obj true ks (v :: v2 :: r2) = (if true then [] else [44]) ++ (brk false d ++ ((if obj then key false (ks.headD []) else []) ++ (prt false d v ++ prts false d obj false ks.tail (v2 :: r2)))) by rw [prts], brk_false]
        have : (prts false d obj false ks.tail (v2 :: r2)).length = (prts false d obj true ks.tail (v2 :: r2)).length + 1 := by
          rw [prts, prts]
          simp
        simp only [List.length_append, List.length_cons]
        omega
      rw [e44, skip_on h44, List.head?_cons, if_neg hc44, if_neg (by simp), List.tail_cons, hsk, dif_pos hlt]
      have := vals_print (v2 :: r2) d K obj ks.tail ks1 (kids ++ [v]) t h2 (fun x hx => hd x (List.mem_cons_of_mem _ hx)) (by simp) (fun e => by rw [List.length_tail, hl e]; rfl) (fun e => by rw [hk0 e]; rfl) (fun x hx => hkb x (List.mem_of_mem_tail hx)) (by rw [hsum]; exact hnd)
      rw [this, hsum]
      simp
end
theorem parse_print {v : Val} (h : Tre.Right v) (d : Nat) : Jdec.parse (prt false d v) = .ok v [] := by
  have h1 := value_print v d 64 [] h.2 h.1 (.inl rfl)
  rw [List.append_nil] at h1
  have h2 := skip_prt v d h.2 []
  rw [List.append_nil] at h2
  unfold Jdec.parse
  rw [h2, h1]
  rfl
end Go.Proofs.YtlfbnfphocpgeaaGreatDoor.Jenc
namespace Go.Proofs.YtlfbnfphocpgeaaGreatDoor.Tre
open Go.RowKit Kit Txt
open Num (Dec zero)
mutual
def Fine (d : Nat) : Val → Prop
  | ⟨_, _, n, s, ks, vs⟩ => d ≤ 70 ∧ s.length ≤ 2000 ∧ n.dig.length ≤ 1200 ∧ (∀ x ∈ ks, x.length ≤ 2000) ∧ Fines (d + 1) vs
def Fines (d : Nat) : List Val → Prop
  | [] => True
  | v :: r => Fine d v ∧ Fines d r
end
theorem fines_iff {d : Nat} {vs : List Val} : Fines d vs ↔ ∀ v ∈ vs, Fine d v := by
  induction vs with
  | nil => simp [Fines]
  | cons v r ih =>
    rw [Fines, ih]
    simp
mutual
def Tame : Val → Prop
  | ⟨_, _, _, _, ks, vs⟩ => ks.length ≤ 10000000000000 ∧ Tames vs
def Tames : List Val → Prop
  | [] => True
  | v :: r => Tame v ∧ Tames r
end
mutual
def count : Val → Nat
  | ⟨_, _, _, _, ks, vs⟩ => 1 + ks.length + counts vs
def counts : List Val → Nat
  | [] => 0
  | v :: r => count v + counts r
end
def Told (d : Nat) (v : Val) (z r : Int) : Prop := -9223372036854775808 ≤ r ∧ r ≤ 9223372036854775807 ∧ (0 ≤ r → Fine d v ∧ (Tame v → r + (count v : Int) ≤ z))
theorem wrap_id {z : Int} (h1 : -9223372036854775808 ≤ z) (h2 : z ≤ 9223372036854775807) : IntKind.i64.wrap z = z := by
  simp only [IntKind.wrap, IntKind.signed, IntKind.bits]
  simp
  omega
end Go.Proofs.YtlfbnfphocpgeaaGreatDoor.Tre
namespace Go.Proofs.YtlfbnfphocpgeaaGreatDoor.Tre
open Go.RowKit Kit Txt
open Num (Dec zero)
end Go.Proofs.YtlfbnfphocpgeaaGreatDoor.Tre
namespace Go.Proofs.YtlfbnfphocpgeaaGreatDoor.Tre
open Go.RowKit Kit Txt
open Num (Dec zero)
theorem hold_none (w : World) : HoldV w (.agg #[.int .i64 0, .bool false, .bool false, .string ⟨#[]⟩, .int .i64 0, .string ⟨#[]⟩, .slice none 0 0, .slice none 0 0]) none' := by
  refine ⟨cellsV 0 false zero [] (.slice none 0 0) (.slice none 0 0), rfl, ?_⟩
  unfold none'
  rw [Hold]
  exact ⟨_, none, 0, rfl, ⟨none, 0, rfl, Nat.le_refl _, by omega, .inl rfl⟩, Nat.le_refl _, by omega, .inl rfl⟩
end Go.Proofs.YtlfbnfphocpgeaaGreatDoor.Tre
namespace Go.Proofs.YtlfbnfphocpgeaaGreatDoor.Tre
theorem nodup_len {α : Type} [DecidableEq α] : ∀ (a b : List α), a.Nodup → (∀ x ∈ a, x ∈ b) → a.length ≤ b.length
  | [], _, _, _ => Nat.zero_le _
  | x :: a, b, h, hs => by
    rw [List.nodup_cons] at h
    have hx := hs x (by simp)
    have ih := nodup_len a (b.erase x) h.2 fun y hy => (List.mem_erase_of_ne (fun e => h.1 (by rw [← e]; exact hy))).2 (hs y (by simp [hy]))
    rw [List.length_erase_of_mem hx] at ih
    have : 0 < b.length := List.length_pos_of_mem hx
    rw [List.length_cons]
    omega
abbrev kat (ks : List (List UInt8)) (i : Nat) : List UInt8 := ks.getD i []
def Picked (ks : List (List UInt8)) (I : List Nat) : Prop :=
  I.Nodup ∧ (∀ i ∈ I, i < ks.length) ∧ I.Pairwise (fun i j => less (kat ks i) (kat ks j) = true) ∧ ∀ i ∈ I, ∀ j, j < ks.length → j ∉ I → less (kat ks i) (kat ks j) = true
def Best (ks : List (List UInt8)) (I : List Nat) (i : Nat) (b : Int) : Prop :=
  (b = -1 ∧ ∀ j, j < i → j ∈ I) ∨ ∃ m : Nat, b = (m : Int) ∧ m < i ∧ m ∉ I ∧ ∀ j, j < i → j ∉ I → j = m ∨ less (kat ks m) (kat ks j) = true
theorem Picked.nil (ks : List (List UInt8)) : Picked ks [] := ⟨by simp, by simp, by simp, by simp⟩
theorem Best.nil (ks : List (List UInt8)) (I : List Nat) : Best ks I 0 (-1) := .inl ⟨rfl, fun _ h => absurd h (Nat.not_lt_zero _)⟩
theorem Best.first {ks : List (List UInt8)} {I : List Nat} {i : Nat} {b : Int} (h : Best ks I i b) (hb : b < 0) (hi : i ∉ I) : Best ks I (i + 1) (i : Int) := by
  rcases h with ⟨_, h⟩ | ⟨m, e, _⟩
  · refine .inr ⟨i, rfl, by omega, hi, fun j hj hjn => ?_⟩
    by_cases e : j = i
    · exact .inl e
    · exact absurd (h j (by omega)) hjn
  · omega
theorem kat_ne {ks : List (List UInt8)} (h : ks.Nodup) {i j : Nat} (hi : i < ks.length) (hj : j < ks.length) (hne : i ≠ j) : kat ks i ≠ kat ks j := by
  intro e
  unfold kat at e
  rw [List.getD_eq_getElem?_getD, List.getD_eq_getElem?_getD, List.getElem?_eq_getElem hi, List.getElem?_eq_getElem hj] at e
  have e' : ks[i] = ks[j] := e
  rcases Nat.lt_or_ge i j with hlt | hge
  · exact List.pairwise_iff_getElem.1 h i j hi hj hlt e'
  · exact List.pairwise_iff_getElem.1 h j i hj hi (by omega) e'.symm
theorem Best.more {ks : List (List UInt8)} {I : List Nat} {i m : Nat} (h : Best ks I i (m : Int)) (hn : ks.Nodup) (hil : i < ks.length) (hl : less (kat ks i) (kat ks m) = false) : Best ks I (i + 1) (m : Int) := by
  rcases h with ⟨e, _⟩ | ⟨m', e, hm, hmn, h⟩
  · omega
  · have e' : m' = m := by omega
    subst e'
    refine .inr ⟨m', rfl, by omega, hmn, fun j hj hjn => ?_⟩
    by_cases e : j = i
    · rw [e]
      exact .inr (less_total (kat_ne hn hil (by omega) (by omega)) hl)
    · exact h j (by omega) hjn
theorem Best.last {ks : List (List UInt8)} {I : List Nat} {b : Int} (h : Best ks I ks.length b) (hI : I.length < ks.length) : ∃ m : Nat, b = (m : Int) ∧ m < ks.length ∧ m ∉ I ∧ ∀ j, j < ks.length → j ∉ I → j = m ∨ less (kat ks m) (kat ks j) = true := by
  rcases h with ⟨_, h⟩ | h
  · exfalso
    have := nodup_len (List.range ks.length) I List.nodup_range fun x hx => h x (List.mem_range.1 hx)
    rw [List.length_range] at this
    omega
  · exact h
theorem Picked.push {ks : List (List UInt8)} {I : List Nat} {m : Nat} (h : Picked ks I) (hm : m < ks.length) (hn : m ∉ I) (hb : ∀ j, j < ks.length → j ∉ I → j = m ∨ less (kat ks m) (kat ks j) = true) : Picked ks (I ++ [m]) := by
  obtain ⟨h1, h2, h3, h4⟩ := h
  refine ⟨?_, ?_, ?_, ?_⟩
  · rw [List.nodup_append]
    refine ⟨h1, by simp, fun a ha b hb => ?_⟩
    rw [List.mem_singleton.1 hb]
    rintro rfl
    exact hn ha
  · intro i hi
    rcases List.mem_append.1 hi with hi | hi
    · exact h2 i hi
    · rw [List.mem_singleton.1 hi]
      exact hm
  · rw [List.pairwise_append]
    refine ⟨h3, by simp, fun a ha b hb => ?_⟩
    rw [List.mem_singleton.1 hb]
    exact h4 a ha m hm hn
  · intro i hi j hj hjn
    have hj1 : j ∉ I := fun h => hjn (List.mem_append.2 (.inl h))
    have hj2 : j ≠ m := fun h => hjn (List.mem_append.2 (.inr (by rw [h]; simp)))
    rcases List.mem_append.1 hi with hi | hi
    · exact h4 i hi j hj hj1
    · rw [List.mem_singleton.1 hi]
      exact (hb j hj hj1).resolve_left hj2
end Go.Proofs.YtlfbnfphocpgeaaGreatDoor.Tre
namespace Go.Proofs.YtlfbnfphocpgeaaGreatDoor.Tre
open Go.RowKit Kit Txt
open Num (Dec zero)
theorem drew_below (w : World) : Below w.heap.size w w.drew := below_drewN (Below.refl _ w) 1
theorem grown_cell (w : World) (b i : Nat) (v : Value) : w.grownBy (w.setCell ⟨b, i, none⟩ v) (some b) :=
  ⟨rfl, rfl, rfl, (KeepsWalks.setCell w _ v).size, fun k _ hk => Below.heap_setCell _ _ _ k (fun e => hk (by rw [e]))⟩
theorem set_other {w : World} {b b' i : Nat} {x : Obj} (h : w.heap[b']? = some x) (hne : b' ≠ b) (v : Value) : (w.setCell ⟨b, i, none⟩ v).heap[b']? = some x := (Below.heap_setCell w ⟨b, i, none⟩ v b' hne).trans h
theorem grown_trans {a b c : World} {row : Option Nat} (h : a.grownBy b row) (k : b.grownBy c row) : a.grownBy c row :=
  ⟨k.os.trans h.os, k.tape.trans h.tape, k.output.trans h.output, Nat.le_trans h.size k.size, fun i hi hr => (k.block i (Nat.lt_of_lt_of_le hi h.size) hr).trans (h.block i hi hr)⟩
theorem store8 {W : World} {g : Nat} {z0 z1 z2 z3 z4 z5 z6 z7 : Value} {t : TypeId} {fr : Nat × Nat} (h : W.heap[g]? = some (.cells #[z0, z1, z2, z3, z4, z5, z6, z7] t fr)) (a0 a1 a2 a3 a4 a5 a6 a7 : Value) :
    ((((((((W.setCell ⟨g, 0, none⟩ a0).setCell ⟨g, 1, none⟩ a1).setCell ⟨g, 2, none⟩ a2).setCell ⟨g, 3, none⟩ a3).setCell ⟨g, 4, none⟩ a4).setCell ⟨g, 5, none⟩ a5).setCell ⟨g, 6, none⟩ a6).setCell ⟨g, 7, none⟩ a7).heap[g]? = some (.cells #[a0, a1, a2, a3, a4, a5, a6, a7] t fr) := by
  have := set_of (set_of (set_of (set_of (set_of (set_of (set_of (set_of h 0 a0) 1 a1) 2 a2) 3 a3) 4 a4) 5 a5) 6 a6) 7 a7
  simpa using this
theorem grown8 (W : World) (g : Nat) (a0 a1 a2 a3 a4 a5 a6 a7 : Value) : W.grownBy ((((((((W.setCell ⟨g, 0, none⟩ a0).setCell ⟨g, 1, none⟩ a1).setCell ⟨g, 2, none⟩ a2).setCell ⟨g, 3, none⟩ a3).setCell ⟨g, 4, none⟩ a4).setCell ⟨g, 5, none⟩ a5).setCell ⟨g, 6, none⟩ a6).setCell ⟨g, 7, none⟩ a7) (some g) :=
  grown_trans (grown_trans (grown_trans (grown_trans (grown_trans (grown_trans (grown_trans (grown_cell _ g 0 _) (grown_cell _ g 1 _)) (grown_cell _ g 2 _)) (grown_cell _ g 3 _)) (grown_cell _ g 4 _)) (grown_cell _ g 5 _)) (grown_cell _ g 6 _)) (grown_cell _ g 7 _)
theorem new8 (w : World) (c : List Value) (_hc : c.length = 8) : ∀ j, j < 8 → (w.alloc (.cells c.toArray 29)).cell? ⟨w.heap.size, j, none⟩ = c[j]? := fun j _ => by
  rw [cell_of (World.alloc_heap_new w (.cells c.toArray 29))]
  simp
theorem HoldF.form {B : Nat} {w : World} {y : Value} {k : Int} {b : Bool} {n : Dec} {s : List UInt8} {ks : List (List UInt8)} {vs : List Val} (h : HoldF B w y ⟨k, b, n, s, ks, vs⟩) : ∃ pk ck a c, y = .agg #[.int .i64 k, .bool b, .bool n.neg, .string (txt n.dig), .int .i64 n.exp, .string (txt s), .slice pk ks.length ck, .slice a vs.length c] ∧
    HoldP (B ≤ ·) w [.int .i64 k, .bool b, .bool n.neg, .string (txt n.dig), .int .i64 n.exp, .string (txt s), .slice pk ks.length ck, .slice a vs.length c] ⟨k, b, n, s, ks, vs⟩ := by
  obtain ⟨cs, rfl, hc⟩ := h
  have hc2 := hc
  rw [HoldP] at hc2
  obtain ⟨uk, a, c, rfl, ⟨pk, ck, rfl, -⟩, -⟩ := hc2
  exact ⟨pk, ck, a, c, rfl, hc⟩
theorem RowC.slice {N : Option Nat} {B : Nat} {w : World} {u : Value} {vs : List Val} {cs : List (List Value)} (h : RowC N B w u vs cs) : ∃ a c, u = .slice a vs.length c := by
  obtain ⟨a, c, hu, _⟩ := h.holds
  exact ⟨a, c, hu⟩
end Go.Proofs.YtlfbnfphocpgeaaGreatDoor.Tre
namespace Go.Proofs.YtlfbnfphocpgeaaGreatDoor.Tre
open Go.RowKit Kit Txt
open Num (Dec zero)
def Gone (w : World) (g n : Nat) (I : List Nat) : Prop := ∃ arr : Array Value, w.heap[g]? = some (.cells arr 3 (0, 0)) ∧ arr.size = n ∧ ∀ i, i < n → arr[i]? = some (.int .i64 (if i ∈ I then 1 else 0))
theorem Gone.keep {w w' : World} {g n : Nat} {I : List Nat} (h : Gone w g n I) (k : w'.heap[g]? = w.heap[g]?) : Gone w' g n I := by
  obtain ⟨arr, h1, h2, h3⟩ := h
  exact ⟨arr, k.trans h1, h2, h3⟩
theorem Gone.new (w : World) (n : Nat) : Gone (w.alloc (.cells (madeCells #[.int .i64 0] n) 3)) w.heap.size n [] := by
  refine ⟨_, World.alloc_heap_new w _, size_madeCells _ _, fun i hi => ?_⟩
  rw [Array.getElem?_eq_getElem (by rw [size_madeCells]; exact hi)]
  simp [madeCells, Nat.mod_one]
theorem Gone.lt {w : World} {g n : Nat} {I : List Nat} (h : Gone w g n I) : g < w.heap.size := by
  obtain ⟨arr, h1, _⟩ := h
  exact lt_of_heap h1
theorem Gone.cell {w : World} {g n i : Nat} {I : List Nat} (h : Gone w g n I) (hi : i < n) : w.cell? ⟨g, i, none⟩ = some (.int .i64 (if i ∈ I then 1 else 0)) := by
  obtain ⟨arr, h1, h2, h3⟩ := h
  rw [cell_of h1, h3 i hi]
theorem Gone.free {w : World} {g n : Nat} {I : List Nat} (h : Gone w g n I) (i : Nat) : w.frozen? ⟨g, i, none⟩ = false := by
  obtain ⟨arr, h1, _⟩ := h
  exact free_of h1 i
theorem RowT.slice {B : Nat} {w : World} {u : Value} {ls : List (List UInt8)} (h : RowT B w u ls) : ∃ a c, u = .slice a ls.length c := by
  obtain ⟨a, c, hu, _⟩ := h.holds
  exact ⟨a, c, hu⟩
theorem RowT.own_lt {B : Nat} {w : World} {u : Value} {ls : List (List UInt8)} (h : RowT B w u ls) : ∀ g, u.ownBlock = some g → B ≤ g ∧ g < w.heap.size := by
  intro g hg
  rcases h.2 with ⟨rfl, _⟩ | ⟨g', cap, cur, rfl, hg', hb, _⟩
  · cases hg
  · have e : g' = g := by simpa [Value.ownBlock] using hg
    subst e
    exact ⟨hg', lt_of_heap hb⟩
theorem own_diff {B : Nat} {w : World} {u1 u2 : Value} {M : Option Nat} {ls : List (List UInt8)} {vs : List Val} {cs : List (List Value)} (h1 : RowT B w u1 ls) (h2 : RowC M B w u2 vs cs) : ∀ g, u2.ownBlock = some g → u1.ownBlock ≠ some g := by
  intro g e2 e1
  rcases h1.2 with ⟨rfl, _⟩ | ⟨g1, c1, k1, rfl, _, hb1, _⟩
  · cases e1
  · rcases h2.2.1.2 with ⟨rfl, _⟩ | ⟨g2, c2, k2, rfl, _, hb2, _⟩
    · cases e2
    · have a1 : g1 = g := by simpa [Value.ownBlock] using e1
      have a2 : g2 = g := by simpa [Value.ownBlock] using e2
      subst a1; subst a2
      rw [hb1] at hb2
      injection hb2 with hb2
      injection hb2 with _ ht _
      exact absurd ht (by decide)
theorem RowT.apart {B : Nat} {w w' : World} {u1 u2 : Value} {M : Option Nat} {ls : List (List UInt8)} {vs : List Val} {cs : List (List Value)} (h1 : RowT B w u1 ls) (h2 : RowC M B w u2 vs cs) (b : w.grownBy w' u2.ownBlock) : RowT B w' u1 ls := by
  refine World.ownsRow.kept h1 b ?_
  cases e : u1.ownBlock with
  | none => exact .inl rfl
  | some g => exact .inr fun h => own_diff h1 h2 g h.symm e
end Go.Proofs.YtlfbnfphocpgeaaGreatDoor.Tre
