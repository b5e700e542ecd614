/- Facts of the sorted form of a value, without a program. Nothing is claimed here. -/
import Derived.Test.YtjekannajnkejaaDoorTreeSpec
namespace Go.Proofs.YtjekannajnkejaaDoor.Tre
open Num (Dec zero)

abbrev Row := List UInt8 × Val
/-- Keys rise. -/
def Rises (l : List Row) : Prop := l.Pairwise fun a b => less a.1 b.1 = true
theorem ins_perm (p : Row) : ∀ l : List Row, (ins p l).Perm (p :: l)
  | [] => .refl _
  | q :: r => by
    unfold ins
    split
    · exact .refl _
    · exact ((ins_perm p r).cons q).trans (.swap p q r)
theorem sortP_perm : ∀ l : List Row, (sortP l).Perm l
  | [] => .refl _
  | p :: l => (ins_perm p (sortP l)).trans ((sortP_perm l).cons p)
theorem ins_rises {p : Row} : ∀ {l : List Row}, Rises l → (∀ q ∈ l, p.1 ≠ q.1) → Rises (ins p l)
  | [], _, _ => List.pairwise_singleton _ _
  | q :: r, h, hne => by
    unfold Rises at h
    rw [List.pairwise_cons] at h
    unfold ins
    by_cases hl : less p.1 q.1 = true
    · rw [if_pos hl]
      unfold Rises
      rw [List.pairwise_cons, List.pairwise_cons]
      refine ⟨fun x hx => ?_, h⟩
      rcases List.mem_cons.1 hx with rfl | hx
      · exact hl
      · exact less_trans hl (h.1 x hx)
    · rw [if_neg hl]
      unfold Rises
      rw [List.pairwise_cons]
      refine ⟨fun x hx => ?_, ins_rises h.2 fun y hy => hne y (List.mem_cons_of_mem _ hy)⟩
      rcases List.mem_cons.1 ((ins_perm p r).mem_iff.1 hx) with rfl | hx
      · exact less_total (hne q (List.mem_cons_self ..)) (by simpa using hl)
      · exact h.1 x hx
theorem sortP_rises : ∀ {l : List Row}, (l.map (·.1)).Nodup → Rises (sortP l)
  | [], _ => List.Pairwise.nil
  | p :: l, h => by
    rw [List.map_cons, List.nodup_cons] at h
    refine ins_rises (sortP_rises h.2) fun q hq e => h.1 ?_
    rw [e]
    exact List.mem_map_of_mem ((sortP_perm l).mem_iff.1 hq)
/-- One list alone has the same rows, with keys that rise. -/
theorem rises_one : ∀ {a b : List Row}, Rises a → Rises b → a.Perm b → a = b
  | [], b, _, _, h => (List.nil_perm.1 h).symm
  | x :: a, [], _, _, h => absurd (List.perm_nil.1 h) (by simp)
  | x :: a, y :: b, ha, hb, h => by
    unfold Rises at ha hb
    rw [List.pairwise_cons] at ha hb
    have e : x = y := by
      rcases List.mem_cons.1 (h.mem_iff.1 (List.mem_cons_self ..)) with e | hx
      · exact e
      · rcases List.mem_cons.1 (h.mem_iff.2 (List.mem_cons_self ..)) with e | hy
        · exact e.symm
        · have h1 := less_trans (hb.1 x hx) (ha.1 y hy)
          rw [less_self] at h1
          cases h1
    subst e
    rw [rises_one ha.2 hb.2 ((List.perm_cons x).1 h)]
theorem sortP_fix {l : List Row} (h : Rises l) : sortP l = l := by
  refine rises_one (sortP_rises ?_) h (sortP_perm l)
  unfold List.Nodup
  rw [List.pairwise_map]
  refine h.imp fun {a b} hab e => ?_
  rw [e, less_self] at hab
  cases hab

theorem zip_map_fst {α β : Type} : ∀ {a : List α} {b : List β}, a.length = b.length → (a.zip b).map (·.1) = a
  | [], [], _ => rfl
  | x :: a, y :: b, h => by
    rw [List.zip_cons_cons, List.map_cons, zip_map_fst (by simpa using h)]
theorem zip_map_snd {α β : Type} : ∀ {a : List α} {b : List β}, a.length = b.length → (a.zip b).map (·.2) = b
  | [], [], _ => rfl
  | x :: a, y :: b, h => by
    rw [List.zip_cons_cons, List.map_cons, zip_map_snd (by simpa using h)]
theorem zip_of_maps {α β : Type} : ∀ l : List (α × β), (l.map (·.1)).zip (l.map (·.2)) = l
  | [] => rfl
  | p :: l => by rw [List.map_cons, List.map_cons, List.zip_cons_cons, zip_of_maps l]

/-- The rows of an object. -/
def rows (ks : List (List UInt8)) (vs : List Val) : List Row := sortP (ks.zip (sorts vs))
theorem sort_eq (v : Val) : sort v = if v.kind = 6 then ⟨v.kind, v.is, v.num, v.str, (rows v.keys v.kids).map (·.1), (rows v.keys v.kids).map (·.2)⟩ else ⟨v.kind, v.is, v.num, v.str, [], sorts v.kids⟩ := by
  obtain ⟨k, i, n, s, ks, vs⟩ := v
  rw [sort]
  rfl
theorem sorts_len (vs : List Val) : (sorts vs).length = vs.length := by rw [sorts_map, List.length_map]
theorem rows_keys {ks : List (List UInt8)} {vs : List Val} (h : ks.length = vs.length) : ((rows ks vs).map (·.1)).Perm ks := by
  have := (sortP_perm (ks.zip (sorts vs))).map (·.1)
  rwa [zip_map_fst (by rw [sorts_len, h])] at this
theorem rows_kids {ks : List (List UInt8)} {vs : List Val} (h : ks.length = vs.length) : ((rows ks vs).map (·.2)).Perm (sorts vs) := by
  have := (sortP_perm (ks.zip (sorts vs))).map (·.2)
  rwa [zip_map_snd (by rw [sorts_len, h])] at this
theorem rows_rises {ks : List (List UInt8)} {vs : List Val} (h : ks.length = vs.length) (hn : ks.Nodup) : Rises (rows ks vs) :=
  sortP_rises (by rwa [zip_map_fst (by rw [sorts_len, h])])

theorem deeps_perm {a b : List Val} (h : a.Perm b) : deeps a = deeps b :=
  Nat.le_antisymm (deeps_le.2 fun v hv => deeps_le.1 (Nat.le_refl _) v (h.mem_iff.1 hv)) (deeps_le.2 fun v hv => deeps_le.1 (Nat.le_refl _) v (h.mem_iff.2 hv))

mutual
theorem sort_deep : ∀ v : Val, Whole v → deep (sort v) = deep v
  | ⟨k, i, n, s, ks, vs⟩, h => by
    rw [Whole] at h
    have hd := sorts_deep vs h.2
    rw [sort]
    by_cases h6 : k = 6
    · have hl : ks.length = vs.length := h.1.2.2.2.2.2.2.2.2.2.1 h6
      have hp := deeps_perm (rows_kids hl)
      unfold rows at hp
      rw [if_pos h6, deep, deep, hp, hd]
    · rw [if_neg h6, deep, deep, hd]
theorem sorts_deep : ∀ vs : List Val, Wholes vs → deeps (sorts vs) = deeps vs
  | [], _ => rfl
  | v :: r, h => by
    rw [Wholes] at h
    rw [sorts, deeps, deeps, sort_deep v h.1, sorts_deep r h.2]
end
mutual
theorem sort_whole : ∀ v : Val, Whole v → Whole (sort v)
  | ⟨k, i, n, s, ks, vs⟩, h => by
    rw [Whole] at h
    have hd := sorts_whole vs h.2
    obtain ⟨h1, h2, h3, h4, h5, h6, h7, h8, h9, h10, h11, h12⟩ := h.1
    rw [sort]
    by_cases hk : k = 6
    · rw [if_pos hk, Whole, wholes_iff]
      have hl := h10 hk
      refine ⟨⟨h1, h2, h3, h4, h5, ?_, fun e => absurd hk e, h8, h9, ?_, ?_, ?_⟩, fun v hv => wholes_iff.1 hd v ((rows_kids hl).mem_iff.1 hv)⟩
      · intro e
        exact absurd e (by show ¬ k < 5; omega)
      · intro _
        show ((rows ks vs).map (·.1)).length = ((rows ks vs).map (·.2)).length
        rw [List.length_map, List.length_map]
      · intro q hq
        exact h11 q ((rows_keys hl).mem_iff.1 hq)
      · exact (rows_keys hl).nodup_iff.2 h12
    · rw [if_neg hk, Whole]
      refine ⟨⟨h1, h2, h3, h4, h5, fun e => ?_, fun _ => rfl, h8, h9, fun e => absurd e hk, fun q hq => absurd hq List.not_mem_nil, List.nodup_nil⟩, hd⟩
      have hvs : vs = [] := h6 e
      subst hvs
      rfl
theorem sorts_whole : ∀ vs : List Val, Wholes vs → Wholes (sorts vs)
  | [], _ => trivial
  | v :: r, h => by
    rw [Wholes] at h
    rw [sorts, Wholes]
    exact ⟨sort_whole v h.1, sorts_whole r h.2⟩
end
theorem sort_right {v : Val} (h : Right v) : Right (sort v) := ⟨by rw [sort_deep v h.2]; exact h.1, sort_whole v h.2⟩

mutual
theorem sort_sort : ∀ v : Val, Whole v → sort (sort v) = sort v
  | ⟨k, i, n, s, ks, vs⟩, h => by
    rw [Whole] at h
    have hd := sorts_sort vs h.2
    obtain ⟨h1, h2, h3, h4, h5, h6, h7, h8, h9, h10, h11, h12⟩ := h.1
    rw [sort]
    by_cases hk : k = 6
    · rw [if_pos hk, sort, if_pos hk]
      have hl : ks.length = vs.length := h10 hk
      have hs : sorts ((rows ks vs).map (·.2)) = (rows ks vs).map (·.2) := by
        rw [sorts_map]
        refine (List.map_congr_left fun v hv => ?_).trans (List.map_id _)
        have hv' := (rows_kids hl).mem_iff.1 hv
        rw [sorts_map (sorts vs)] at hd
        exact List.map_inj_left.1 (hd.trans (List.map_id _).symm) v hv'
      have hz : sortP (((rows ks vs).map (·.1)).zip (sorts ((rows ks vs).map (·.2)))) = rows ks vs := by
        rw [hs, zip_of_maps]
        exact sortP_fix (rows_rises hl h12)
      unfold rows at hz
      rw [hz]
    · rw [if_neg hk, sort, if_neg hk, hd]
theorem sorts_sort : ∀ vs : List Val, Wholes vs → sorts (sorts vs) = sorts vs
  | [], _ => rfl
  | v :: r, h => by
    rw [Wholes] at h
    rw [sorts, sorts, sort_sort v h.1, sorts_sort r h.2]
end

/-- What a key tells. -/
theorem get_mem {v : Val} {k : List UInt8} {x : Val} (h6 : v.kind = 6) (hn : v.keys.Nodup) (h : (k, x) ∈ v.keys.zip v.kids) : get v k = some x := by
  obtain ⟨j, hj, e⟩ := List.mem_iff_getElem.1 h
  rw [List.getElem_zip] at e
  rw [List.length_zip] at hj
  injection e with e1 e2
  have hf : v.keys.findIdx? (· = k) = some j := by
    rw [List.findIdx?_eq_some_iff_getElem]
    refine ⟨by omega, by simpa using e1, fun i hi => ?_⟩
    have := List.pairwise_iff_getElem.1 hn i j (by omega) (by omega) hi
    rw [e1] at this
    simpa using this
  unfold get
  rw [if_pos h6, hf]
  dsimp only
  rw [List.getElem?_eq_getElem (by omega), e2]
theorem mem_get {v : Val} {k : List UInt8} (hl : v.keys.length = v.kids.length) (h : k ∈ v.keys) : ∃ x, (k, x) ∈ v.keys.zip v.kids := by
  obtain ⟨j, hj, e⟩ := List.mem_iff_getElem.1 h
  refine ⟨v.kids[j]'(by omega), List.mem_iff_getElem.2 ⟨j, by rw [List.length_zip]; omega, ?_⟩⟩
  rw [List.getElem_zip, e]
theorem zip_map_right {α β γ : Type} (f : β → γ) : ∀ (a : List α) (b : List β), a.zip (b.map f) = (a.zip b).map fun p => (p.1, f p.2)
  | [], _ => rfl
  | _ :: _, [] => rfl
  | x :: a, y :: b => by rw [List.map_cons, List.zip_cons_cons, List.zip_cons_cons, List.map_cons, zip_map_right f a b]
/-- Each key of an object tells, of its sorted form, its kid's sorted form. -/
theorem get_sort {v : Val} (h : Whole v) {k : List UInt8} (hk : k ∈ v.keys) : ∃ x, get v k = some x ∧ Whole x ∧ get (sort v) k = some (sort x) := by
  rw [whole_iff] at h
  obtain ⟨⟨h1, h2, h3, h4, h5, h6, h7, h8, h9, h10, h11, h12⟩, hw⟩ := h
  have h6' : v.kind = 6 := by
    by_cases e : v.kind = 6
    · exact e
    · rw [h7 e] at hk
      cases hk
  have hl := h10 h6'
  obtain ⟨x, hx⟩ := mem_get hl hk
  have hxk : x ∈ v.kids := (List.of_mem_zip hx).2
  refine ⟨x, get_mem h6' h12 hx, hw x hxk, ?_⟩
  have hs := sort_eq v
  rw [if_pos h6'] at hs
  have e1 : (sort v).keys = (rows v.keys v.kids).map (·.1) := by rw [hs]; rfl
  have e2 : (sort v).kids = (rows v.keys v.kids).map (·.2) := by rw [hs]; rfl
  refine get_mem (by rw [hs]; exact h6') ?_ ?_
  · rw [e1]
    exact (rows_keys hl).nodup_iff.2 h12
  · rw [e1, e2, zip_of_maps]
    refine (sortP_perm _).mem_iff.2 ?_
    rw [sorts_map, zip_map_right]
    exact List.mem_map_of_mem (f := fun p : List UInt8 × Val => (p.1, sort p.2)) hx
theorem sort_sizes {v : Val} (h : Whole v) : (sort v).keys.length = v.keys.length ∧ (sort v).kids.length = v.kids.length ∧ (sort v).kind = v.kind := by
  rw [whole_iff] at h
  obtain ⟨⟨h1, h2, h3, h4, h5, h6, h7, h8, h9, h10, h11, h12⟩, hw⟩ := h
  rw [sort_eq]
  by_cases e : v.kind = 6
  · rw [if_pos e]
    have hl := h10 e
    have e1 := (rows_keys hl).length_eq
    have e2 := (rows_kids hl).length_eq
    rw [sorts_len] at e2
    exact ⟨e1, e2, rfl⟩
  · rw [if_neg e]
    rw [h7 e]
    exact ⟨rfl, sorts_len _, rfl⟩
end Go.Proofs.YtjekannajnkejaaDoor.Tre
