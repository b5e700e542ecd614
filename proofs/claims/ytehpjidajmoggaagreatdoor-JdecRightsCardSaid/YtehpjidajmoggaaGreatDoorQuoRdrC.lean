/- The reader of package quote as it landed: what follows a backslash. Nothing is claimed here. -/
import Derived.Test.YtehpjidajmoggaaGreatDoorQuoRdrB
namespace Go.Proofs.YtehpjidajmoggaaGreatDoor.Quo
open Go.RowKit Kit Txt Utf

/-- What stands behind a backslash, and what it stands for. -/
def signsL : List UInt8 := [34, 92, 47, 98, 102, 110, 114, 116]
def meansL : List UInt8 := [34, 92, 47, 8, 12, 10, 13, 9]
theorem index_any {w : World} (l : List UInt8) (c : UInt8) : Calls Tryz.prog 43 #[.string (txt l), .int .u8 (c.toNat : Int)] w fun e w' => e = .returned (.int .i64 (Lib.indexByte l c)) ∧ w' = w := by
  have h := Tryz.strings_IndexByte (txt l) (c.toNat : Int) w
  rw [txt_list] at h
  have e : ((c.toNat : Int)).toNat.toUInt8 = c := by
    rw [Int.toNat_natCast]
    exact UInt8.ofNat_toNat
  rwa [e] at h
theorem sign_index : ∀ x : Fin 256, (Lib.indexByte signsL (UInt8.ofNat x.val) = -1 ∧ sign (UInt8.ofNat x.val) = none) ∨
    (∃ i : Fin 8, Lib.indexByte signsL (UInt8.ofNat x.val) = (i.val : Int) ∧ sign (UInt8.ofNat x.val) = meansL[i.val]?) := by decide +kernel
theorem sign_at (d : UInt8) : (Lib.indexByte signsL d = -1 ∧ sign d = none) ∨ (∃ i : Nat, i < 8 ∧ Lib.indexByte signsL d = (i : Int) ∧ sign d = meansL[i]?) := by
  have h := sign_index ⟨d.toNat, d.toNat_lt⟩
  rw [show UInt8.ofNat d.toNat = d from UInt8.ofNat_toNat] at h
  exact h.imp id fun ⟨i, h1, h2⟩ => ⟨i.val, i.isLt, h1, h2⟩
theorem unit_nil_len {l : List UInt8} (h : (coded l).e = 0) : 6 ≤ (coded l).size := by
  obtain ⟨_, _, _, h3, _⟩ := coded_ok h
  exact h3
theorem coded_scalar {l : List UInt8} (h : (coded l).e = 0) : Scalar (codeN l) ∧ (coded l).s = enc (codeN l) := by
  have b1 := unit_lt l
  have b2 := unit_lt (l.drop 6)
  unfold coded at h ⊢
  unfold codeN
  by_cases c1 : (unit l).2 ≠ 0
  · rw [if_pos c1] at h; exact absurd h c1
  rw [if_neg c1] at h ⊢
  by_cases c2 : 56320 ≤ (unit l).1 ∧ (unit l).1 ≤ 57343
  · rw [if_pos c2] at h; cases h
  rw [if_neg c2] at h ⊢
  by_cases c3 : (unit l).1 < 55296 ∨ 57343 < (unit l).1
  · rw [if_pos c3, if_pos c3]
    exact ⟨by unfold Scalar; omega, rfl⟩
  rw [if_neg c3] at h ⊢
  rw [if_neg c3]
  by_cases c4 : follow (l.drop 4) ≠ 0
  · rw [if_pos c4] at h; exact absurd h c4
  rw [if_neg c4] at h ⊢
  by_cases c5 : (unit (l.drop 6)).2 ≠ 0
  · rw [if_pos c5] at h; exact absurd h c5
  rw [if_neg c5] at h ⊢
  by_cases c6 : (unit (l.drop 6)).1 < 56320 ∨ 57343 < (unit (l.drop 6)).1
  · rw [if_pos c6] at h; cases h
  rw [if_neg c6]
  exact ⟨by unfold Scalar; omega, by dsimp only⟩
set_option maxRecDepth 100000 in
theorem means_sl {i : Nat} (hi : i < 8) (wx : World) : ∃ x, meansL[i]? = some x ∧ (Instr.slice 9 (.string (txt meansL)) (some (.int .i64 (i : Int))) (some (.int .i64 ((i : Int) + 1))) none).run Tryz.prog wx = .ok (.string (txt [x])) wx := by
  have h := slM (l := meansL) (y := (i : Int)) (z := (i : Int) + 1) (i := i) (j := i + 1) rfl (by omega) (by omega) (by simp [meansL]; omega) wx
  have h8 : ∀ k : Fin 8, meansL[k.val]? = some (meansL.getD k.val 0) ∧ (meansL.drop k.val).take (k.val + 1 - k.val) = [meansL.getD k.val 0] := by decide +kernel
  obtain ⟨h1, h2⟩ := h8 ⟨i, hi⟩
  dsimp only at h1 h2
  rw [h2] at h
  exact ⟨_, h1, h⟩

set_option maxRecDepth 100000 in
set_option maxHeartbeats 2000000 in
theorem mescaped_any {w : World} {R : Nat} {l : List UInt8} (h : Rdr R l w) :
    Calls Tryz.prog 75 #[rp R] w fun e w' => Takes R w (part (92 :: l)).e (.string (txt (part (92 :: l)).s)) ((92 :: l).drop (part (92 :: l)).size) e w' := by
  cases l with
  | nil =>
    have hn := next_nil h
    unfold rp at *
    go_enter Tryz.func75, Tryz.ntmps75
    go_wp2_with fail
    refine hn.mono ?_
    rintro e w1 ⟨rfl, rfl⟩
    exact ⟨rfl, .no (Nat.succ_ne_zero 1) (World.grownBy.refl _ _)⟩
  | cons d r =>
    have hn := next_cons h
    by_cases hd : d = 117
    · subst hd
      have hp : part (92 :: 117 :: r) = coded r := rfl
      have hdr : (coded r).e = 0 → (92 :: 117 :: r).drop (coded r).size = r.drop ((coded r).size - 2) := fun h => by
        have := unit_nil_len h
        obtain ⟨k, hk⟩ : ∃ k, (coded r).size = k + 2 := ⟨(coded r).size - 2, by omega⟩
        rw [hk]
        rfl
      have hs := fun wx (hx : Rdr R r wx) => mscalar_any hx
      have hcs := coded_scalar (l := r)
      rw [hp]
      generalize coded r = q at *
      obtain ⟨qs, qz, qe⟩ := q
      dsimp only at *
      by_cases he : qe = 0
      · subst he
        obtain ⟨h1, rfl⟩ := hcs rfl
        have hput := fun wx => put_any (w := wx) (c := (codeN r : Int)) (by omega) (by unfold Scalar at h1; omega)
        have hpl : putL (codeN r : Int) = enc (codeN r) := by
          unfold putL
          unfold Scalar at h1
          rw [if_pos (by omega), Int.toNat_natCast]
        have htx : (⟨(putL (codeN r : Int)).toArray⟩ : ByteArray) = txt (enc (codeN r)) := by rw [hpl]; rfl
        rw [htx] at hput
        have hD := Lib.hid (hdr rfl)
        clear hdr hcs hp hpl htx
        unfold rp at *
        go_enter Tryz.func75, Tryz.ntmps75
        go_wp2_with fail
        refine hn.mono ?_
        rintro e w1 ⟨rfl, k1, k2⟩
        go_wp2_with fail
        refine (hs _ k1).mono ?_
        rintro en w2 ⟨k3, (⟨-, rfl, k4⟩ | ⟨hk, -⟩)⟩
        case inr => exact absurd rfl hk
        go_wp2_with fail
        refine (hput _).mono ?_
        rintro en w3 ⟨rfl, rfl⟩
        go_wp2_with fail
        go_ret
        rw [hD.out]
        exact .mk k4 (grownBy.trans k2 k3)
      · clear hdr hcs hp
        unfold rp at *
        go_enter Tryz.func75, Tryz.ntmps75
        go_wp2_with fail
        refine hn.mono ?_
        rintro e w1 ⟨rfl, k1, k2⟩
        go_wp2_with fail
        refine (hs _ k1).mono ?_
        rintro en w2 ⟨k3, (⟨hk, -, -⟩ | ⟨hk, rfl⟩)⟩
        · exact absurd hk he
        exact ⟨rfl, .no hk (grownBy.trans k2 k3)⟩
    · have hp : part (92 :: d :: r) = match sign d with
          | some x => ⟨[x], 2, 0⟩
          | none => if d = 117 then coded r else err 3 := rfl
      have e1 : ((d.toNat : Int) == 117) = false := by
        simp
        intro e
        exact hd (UInt8.toNat_inj.1 (by rw [show (117 : UInt8).toNat = 117 from rfl]; omega))
      have hix := fun wx => index_any (w := wx) signsL d
      have ts : (⟨#[34, 92, 47, 98, 102, 110, 114, 116]⟩ : ByteArray) = txt signsL := rfl
      have tm : (⟨#[34, 92, 47, 8, 12, 10, 13, 9]⟩ : ByteArray) = txt meansL := rfl
      rcases sign_at d with ⟨h1, h2⟩ | ⟨i, hi, h1, h2⟩
      · rw [h2] at hp
        dsimp only at hp
        rw [if_neg hd] at hp
        have hP := Lib.hid hp
        simp only [h1] at hix
        clear hp h1 h2 tm hd
        unfold rp at *
        go_enter Tryz.func75, Tryz.ntmps75
        go_wp2_with fail
        refine hn.mono ?_
        rintro e w1 ⟨rfl, k1, k2⟩
        go_wp2_with fail
        refine (hix _).mono ?_
        rintro e w2 ⟨rfl, rfl⟩
        go_wp2_with fail
        refine ⟨rfl, ?_⟩
        rw [hP.out]
        exact .no (Nat.succ_ne_zero 2) k2
      · have hsl := fun wx => means_sl hi wx
        obtain ⟨x, hx, -⟩ := hsl w
        have hsl' : ∀ wx, (Instr.slice 9 (.string (txt meansL)) (some (.int .i64 (i : Int))) (some (.int .i64 ((i : Int) + 1))) none).run Tryz.prog wx = .ok (.string (txt [x])) wx := fun wx => by
          obtain ⟨y, hy, h⟩ := means_sl hi wx
          rw [hx] at hy
          injection hy with hy
          subst hy
          exact h
        rw [h2, hx] at hp
        dsimp only at hp
        have hP := Lib.hid hp
        simp only [h1] at hix
        have wi : IntKind.i64.wrap ((i : Int) + 1) = (i : Int) + 1 := by simp only [IntKind.wrap, IntKind.signed, IntKind.bits]; simp; omega
        have d0 : decide ((i : Int) < 0) = false := by simp
        clear hp h1 h2 hd hsl hx
        unfold rp at *
        go_enter Tryz.func75, Tryz.ntmps75
        go_wp2_with fail
        refine hn.mono ?_
        rintro e w1 ⟨rfl, k1, k2⟩
        go_wp2_with fail
        refine (hix _).mono ?_
        rintro e w2 ⟨rfl, rfl⟩
        go_wp2_with fail
        go_ret
        rw [hP.out]
        exact .mk k1 k2
end Go.Proofs.YtehpjidajmoggaaGreatDoor.Quo
