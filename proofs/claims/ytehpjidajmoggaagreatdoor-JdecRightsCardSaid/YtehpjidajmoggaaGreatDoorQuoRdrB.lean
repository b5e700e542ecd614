/- The reader of package quote as it landed: number, scalar, escaped. Nothing is claimed here. -/
import Derived.Test.YtehpjidajmoggaaGreatDoorQuoRdr
import Derived.Test.YtehpjidajmoggaaGreatDoorUtfDec
import Derived.Test.YtehpjidajmoggaaGreatDoorShelf
namespace Go.Proofs.YtehpjidajmoggaaGreatDoor.Quo
open Go.RowKit Kit Txt Utf

theorem or_low4 (c x : Nat) (hc : c < 1099511627776) (hx : x < 16) : bits .or .i64 ((c : Int) * 16) (x : Int) = ((c * 16 + x : Nat) : Int) := by
  have e1 : (c : Int) * 16 = ((c * 16 : Nat) : Int) := by omega
  rw [e1]
  have h1 : (BitVec.ofInt 64 ((c * 16 : Nat) : Int)).toNat = c * 16 := by
    rw [BitVec.ofInt_natCast, BitVec.toNat_ofNat]; exact Nat.mod_eq_of_lt (by omega)
  have h2 : (BitVec.ofInt 64 (x : Int)).toNat = x := by
    rw [BitVec.ofInt_natCast, BitVec.toNat_ofNat]; exact Nat.mod_eq_of_lt (by omega)
  have h3 : c * 16 ||| x = c * 16 + x := by
    have := Nat.shiftLeft_add_eq_or_of_lt (b := x) (i := 4) (by omega) c
    rw [Nat.shiftLeft_eq] at this
    exact this.symm
  show IntKind.i64.wrap ((BitVec.ofInt 64 ((c * 16 : Nat) : Int) ||| BitVec.ofInt 64 (x : Int)).toNat : Int) = _
  rw [BitVec.toNat_or, h1, h2, h3]
  simp only [IntKind.wrap, IntKind.signed, IntKind.bits]
  simp
  omega
theorem unit_step (k n : Nat) (l : List UInt8) : unitF (k + 1) n l = if digE l = 0 then unitF k (n * 16 + digV l) l.tail else (0, digE l) := by
  cases l with
  | nil => rfl
  | cons c r =>
    rw [show unitF (k + 1) n (c :: r) = (match hexV c with | none => (0, 3) | some d => unitF k (n * 16 + d) r) from rfl, show digE (c :: r) = (match hexV c with | none => 3 | some _ => 0) from rfl, show digV (c :: r) = (hexV c).getD 0 from rfl]
    cases hexV c <;> rfl
theorem digV_lt (l : List UInt8) : digV l < 16 := by
  unfold digV
  cases l with
  | nil => decide
  | cons c r =>
    cases h : hexV c with
    | none => dsimp only; rw [h]; decide
    | some d => dsimp only; rw [h]; have := (hexI_some h).2; simp; omega

set_option maxRecDepth 100000 in
set_option maxHeartbeats 1000000 in
theorem mnumber_any {w : World} {R : Nat} {l : List UInt8} (h : Rdr R l w) :
    Calls Tryz.prog 112 #[rp R] w fun e w' => Takes R w (unit l).2 (.int .i64 ((unit l).1 : Int)) (l.drop 4) e w' := by
  have hd := fun wx rx (hx : Rdr R rx wx) => mdigit_any hx
  unfold rp at *
  go_enter Tryz.func112, Tryz.ntmps112
  go_wp2_with fail
  go_loopw [3, 4] (fun n j wr => ∃ (k m nn : Nat) (rest : List UInt8), k + m = 4 ∧ n = .int .i64 (nn : Int) ∧ j = .int .i64 (k : Int) ∧ Rdr R rest wr ∧ w.grownBy wr (some R) ∧ unitF m nn rest = unit l ∧ rest = l.drop k ∧ nn < 65536 * 16 ^ k) (fun _ j _ => 4 - (intOf j).toNat)
  case atStart => exact ⟨0, 4, 0, l, rfl, rfl, rfl, h, World.grownBy.refl _ _, rfl, rfl, by simp⟩
  case round =>
    obtain ⟨k, m, nn, rest, hkm, rfl, rfl, hR, hg, hu, hrest, hnn⟩ := hrel
    by_cases hlt : k < 4
    · obtain ⟨m', rfl⟩ : ∃ m', m = m' + 1 := ⟨m - 1, by omega⟩
      have hks : (k : Int) < 4 := by omega
      have hp : 65536 * 16 ^ k ≤ 65536 * 16 ^ 3 := Nat.mul_le_mul_left _ (Nat.pow_le_pow_right (by omega) (by omega))
      have ws : IntKind.i64.wrap ((nn : Int) * 16) = (nn : Int) * 16 := by simp only [IntKind.wrap, IntKind.signed, IntKind.bits]; simp; omega
      rw [unit_step] at hu
      have hor := or_low4 nn (digV rest) (by omega) (digV_lt rest)
      have hdig := hd _ _ hR
      by_cases he : digE rest = 0
      · rw [if_pos he] at hu
        have hH := Lib.hid hu
        have hdv := digV_lt rest
        rw [he] at hdig
        generalize digV rest = dv at *
        clear hu he
        go_wp2_with fail
        refine hdig.mono ?_
        rintro e w1 ⟨k1, (⟨-, rfl, h1⟩ | ⟨hk, -⟩)⟩
        case inr => exact absurd rfl hk
        go_wp2_with fail
        go_roundw
        case rel => exact ⟨k + 1, m', nn * 16 + dv, rest.tail, by omega, by go_num, by go_num, h1, grownBy.trans hg k1, hH.out, by rw [hrest, List.tail_drop], by rw [Nat.pow_succ]; omega⟩
        case measure => simp [intOf]; omega
      · rw [if_neg he] at hu
        have hu2 : (unit l).2 = digE rest := by rw [← hu]
        have hH := Lib.hid he
        have hU := Lib.hid hu2
        clear hu he hu2
        go_wp2_with fail
        refine hdig.mono ?_
        rintro e w1 ⟨k1, (⟨hk, -, -⟩ | ⟨hk, rfl⟩)⟩
        · exact absurd hk hH.out
        refine ⟨rfl, ?_⟩
        rw [hU.out]
        exact .no hk (grownBy.trans hg k1)
    · obtain rfl : k = 4 := by omega
      obtain rfl : m = 0 := by omega
      subst hrest
      have hu' : (nn, 0) = unit l := hu
      have hU := Lib.hid hu'
      clear hu' hu
      go_wp2_with fail
      go_ret
      rw [← hU.out]
      exact .mk hR hg

/-- The scalar's number behind a backslash and u. -/
def codeN (l : List UInt8) : Nat := if (unit l).1 < 55296 ∨ 57343 < (unit l).1 then (unit l).1 else 65536 + ((unit l).1 - 55296) * 1024 + ((unit (l.drop 6)).1 - 56320)
theorem follow_want (l : List UInt8) : follow l = if wantE 92 l ≠ 0 then wantE 92 l else wantE 117 l.tail := by
  cases l with
  | nil => rfl
  | cons a r =>
    by_cases ha : a = 92
    · subst ha
      cases r with
      | nil => rfl
      | cons b t =>
        by_cases hb : b = 117
        · subst hb
          rfl
        · show (if b ≠ 117 then 3 else 0) = (if b = 117 then 0 else 3)
          rw [if_pos hb, if_neg hb]
    · have e1 : follow (a :: r) = 3 := if_pos ha
      have e2 : wantE 92 (a :: r) = 3 := if_neg ha
      rw [e1, e2]
      rfl

set_option maxRecDepth 100000 in
set_option maxHeartbeats 2000000 in
theorem mscalar_any {w : World} {R : Nat} {l : List UInt8} (h : Rdr R l w) :
    Calls Tryz.prog 97 #[rp R] w fun e w' => Takes R w (coded l).e (.int .i64 (codeN l : Int)) (l.drop ((coded l).size - 2)) e w' := by
  have h1 := mnumber_any h
  have hn2 := fun wx (hx : Rdr R (l.drop 6) wx) => mnumber_any hx
  have hw1 := fun wx (hx : Rdr R (l.drop 4) wx) => mwant_any (c := 92) (x := 92) hx rfl
  have hw2 := fun wx (hx : Rdr R (l.drop 4).tail wx) => mwant_any (c := 117) (x := 117) hx rfl
  have t4 : (l.drop 4).tail = l.drop 5 := by rw [List.tail_drop]
  have t5 : (l.drop 4).tail.tail = l.drop 6 := by rw [List.tail_drop, List.tail_drop]
  have hlt1 := unit_lt l
  have hlt2 := unit_lt (l.drop 6)
  have hfw := follow_want (l.drop 4)
  have hcod : coded l = if (unit l).2 ≠ 0 then err (unit l).2
    else if 56320 ≤ (unit l).1 ∧ (unit l).1 ≤ 57343 then err 3
    else if (unit l).1 < 55296 ∨ 57343 < (unit l).1 then ⟨enc (unit l).1, 6, 0⟩
    else if follow (l.drop 4) ≠ 0 then err (follow (l.drop 4))
    else if (unit (l.drop 6)).2 ≠ 0 then err (unit (l.drop 6)).2
    else if (unit (l.drop 6)).1 < 56320 ∨ 57343 < (unit (l.drop 6)).1 then err 3
    else ⟨enc (65536 + ((unit l).1 - 55296) * 1024 + ((unit (l.drop 6)).1 - 56320)), 12, 0⟩ := rfl
  have hcn : codeN l = if (unit l).1 < 55296 ∨ 57343 < (unit l).1 then (unit l).1 else 65536 + ((unit l).1 - 55296) * 1024 + ((unit (l.drop 6)).1 - 56320) := rfl
  rw [t5] at hw2
  generalize unit l = u1 at *
  generalize unit (l.drop 6) = u2 at *
  generalize follow (l.drop 4) = fo at *
  obtain ⟨n, e⟩ := u1
  obtain ⟨m, f⟩ := u2
  dsimp only at *
  by_cases c1 : e = 0
  case neg =>
    rw [if_pos c1] at hcod
    have hC := Lib.hid hcod
    clear hcod hcn hn2 hw1 hw2 hlt1 hlt2 hfw t4 t5
    unfold rp at *
    go_enter Tryz.func97, Tryz.ntmps97
    go_wp2_with fail
    refine h1.mono ?_
    rintro en w1 ⟨k1, (⟨hk, -, -⟩ | ⟨hk, rfl⟩)⟩
    · exact absurd hk c1
    refine ⟨rfl, ?_⟩
    rw [hC.out]
    exact .no hk k1
  subst c1
  rw [if_neg (by simp)] at hcod
  by_cases c2 : 56320 ≤ n ∧ n ≤ 57343
  · rw [if_pos c2] at hcod
    have hC := Lib.hid hcod
    have d1 : decide ((n : Int) < 55296) = false := by simp; omega
    have d2 : decide ((57343 : Int) < n) = false := by simp; omega
    have d3 : (56320 : Int) ≤ n := by omega
    clear hcod hcn hn2 hw1 hw2 hlt1 hlt2 hfw t4 t5
    unfold rp at *
    go_enter Tryz.func97, Tryz.ntmps97
    go_wp2_with fail
    refine h1.mono ?_
    rintro en w1 ⟨k1, (⟨-, rfl, k2⟩ | ⟨hk, -⟩)⟩
    case inr => exact absurd rfl hk
    go_wp2_with fail
    refine ⟨rfl, ?_⟩
    rw [hC.out]
    exact .no (Nat.succ_ne_zero 2) k1
  rw [if_neg c2] at hcod
  by_cases c3 : n < 55296 ∨ 57343 < n
  · rw [if_pos c3] at hcod hcn
    have hC := Lib.hid hcod
    have hN := Lib.hid hcn
    clear hcod hcn hn2 hw1 hw2 hlt1 hlt2 hfw t4 t5 c2
    unfold rp at *
    by_cases c4 : n < 55296
    · have d1 : (n : Int) < 55296 := by omega
      clear c3
      go_enter Tryz.func97, Tryz.ntmps97
      go_wp2_with fail
      refine h1.mono ?_
      rintro en w1 ⟨k1, (⟨-, rfl, k2⟩ | ⟨hk, -⟩)⟩
      case inr => exact absurd rfl hk
      go_wp2_with fail
      go_ret
      rw [hC.out, hN.out]
      exact .mk k2 k1
    · have d1 : decide ((n : Int) < 55296) = false := by simp; omega
      have d2 : (57343 : Int) < n := by omega
      clear c3
      go_enter Tryz.func97, Tryz.ntmps97
      go_wp2_with fail
      refine h1.mono ?_
      rintro en w1 ⟨k1, (⟨-, rfl, k2⟩ | ⟨hk, -⟩)⟩
      case inr => exact absurd rfl hk
      go_wp2_with fail
      go_ret
      rw [hC.out, hN.out]
      exact .mk k2 k1
  rw [if_neg c3] at hcod hcn
  have d1 : decide ((n : Int) < 55296) = false := by simp; omega
  have d2 : decide ((57343 : Int) < n) = false := by simp; omega
  have d3 : decide ((56320 : Int) ≤ n) = false := by simp; omega
  have hlo : 55296 ≤ n := by omega
  clear c2 c3
  by_cases c4 : wantE 92 (l.drop 4) = 0
  case neg =>
    rw [if_pos c4] at hfw
    rw [if_pos (by rw [hfw]; exact c4)] at hcod
    rw [hfw] at hcod
    have hC := Lib.hid hcod
    have h4 := Lib.hid c4
    clear hcod hcn hn2 hw2 hlt1 hlt2 hfw t4 t5 c4
    unfold rp at *
    go_enter Tryz.func97, Tryz.ntmps97
    go_wp2_with fail
    refine h1.mono ?_
    rintro en w1 ⟨k1, (⟨-, rfl, k2⟩ | ⟨hk, -⟩)⟩
    case inr => exact absurd rfl hk
    go_wp2_with fail
    refine (hw1 _ k2).mono ?_
    rintro en w2 ⟨k3, (⟨hk, -, -⟩ | ⟨hk, rfl⟩)⟩
    · exact absurd hk h4.out
    refine ⟨rfl, ?_⟩
    rw [hC.out]
    exact .no hk (grownBy.trans k1 k3)
  rw [if_neg (by simp [c4])] at hfw
  rw [c4] at hw1
  clear c4
  by_cases c5 : wantE 117 (l.drop 4).tail = 0
  case neg =>
    rw [if_pos (by rw [hfw]; exact c5)] at hcod
    rw [hfw] at hcod
    have hC := Lib.hid hcod
    have h5 := Lib.hid c5
    clear hcod hcn hn2 hlt1 hlt2 hfw t4 t5 c5
    unfold rp at *
    go_enter Tryz.func97, Tryz.ntmps97
    go_wp2_with fail
    refine h1.mono ?_
    rintro en w1 ⟨k1, (⟨-, rfl, k2⟩ | ⟨hk, -⟩)⟩
    case inr => exact absurd rfl hk
    go_wp2_with fail
    refine (hw1 _ k2).mono ?_
    rintro en w2 ⟨k3, (⟨-, rfl, k4⟩ | ⟨hk, -⟩)⟩
    case inr => exact absurd rfl hk
    go_wp2_with fail
    refine (hw2 _ k4).mono ?_
    rintro en w3 ⟨k5, (⟨hk, -, -⟩ | ⟨hk, rfl⟩)⟩
    · exact absurd hk h5.out
    refine ⟨rfl, ?_⟩
    rw [hC.out]
    exact .no hk (grownBy.trans (grownBy.trans k1 k3) k5)
  rw [c5] at hw2 hfw
  rw [hfw, if_neg (by simp)] at hcod
  clear c5 hfw t4 t5
  by_cases c6 : f = 0
  case neg =>
    rw [if_pos c6] at hcod
    have hC := Lib.hid hcod
    clear hcod hcn hlt1 hlt2
    unfold rp at *
    go_enter Tryz.func97, Tryz.ntmps97
    go_wp2_with fail
    refine h1.mono ?_
    rintro en w1 ⟨k1, (⟨-, rfl, k2⟩ | ⟨hk, -⟩)⟩
    case inr => exact absurd rfl hk
    go_wp2_with fail
    refine (hw1 _ k2).mono ?_
    rintro en w2 ⟨k3, (⟨-, rfl, k4⟩ | ⟨hk, -⟩)⟩
    case inr => exact absurd rfl hk
    go_wp2_with fail
    refine (hw2 _ k4).mono ?_
    rintro en w3 ⟨k5, (⟨-, rfl, k6⟩ | ⟨hk, -⟩)⟩
    case inr => exact absurd rfl hk
    go_wp2_with fail
    refine (hn2 _ k6).mono ?_
    rintro en w4 ⟨k7, (⟨hk, -, -⟩ | ⟨hk, rfl⟩)⟩
    · exact absurd hk c6
    refine ⟨rfl, ?_⟩
    rw [hC.out]
    exact .no hk (grownBy.trans (grownBy.trans (grownBy.trans k1 k3) k5) k7)
  subst c6
  rw [if_neg (by simp)] at hcod
  by_cases c7 : m < 56320 ∨ 57343 < m
  · rw [if_pos c7] at hcod
    have hC := Lib.hid hcod
    clear hcod hcn hlt1 hlt2
    unfold rp at *
    by_cases c8 : m < 56320
    · have d4 : (m : Int) < 56320 := by omega
      clear c7
      go_enter Tryz.func97, Tryz.ntmps97
      go_wp2_with fail
      refine h1.mono ?_
      rintro en w1 ⟨k1, (⟨-, rfl, k2⟩ | ⟨hk, -⟩)⟩
      case inr => exact absurd rfl hk
      go_wp2_with fail
      refine (hw1 _ k2).mono ?_
      rintro en w2 ⟨k3, (⟨-, rfl, k4⟩ | ⟨hk, -⟩)⟩
      case inr => exact absurd rfl hk
      go_wp2_with fail
      refine (hw2 _ k4).mono ?_
      rintro en w3 ⟨k5, (⟨-, rfl, k6⟩ | ⟨hk, -⟩)⟩
      case inr => exact absurd rfl hk
      go_wp2_with fail
      refine (hn2 _ k6).mono ?_
      rintro en w4 ⟨k7, (⟨-, rfl, k8⟩ | ⟨hk, -⟩)⟩
      case inr => exact absurd rfl hk
      go_wp2_with fail
      refine ⟨rfl, ?_⟩
      rw [hC.out]
      exact .no (Nat.succ_ne_zero 2) (grownBy.trans (grownBy.trans (grownBy.trans k1 k3) k5) k7)
    · have d4 : decide ((m : Int) < 56320) = false := by simp; omega
      have d5 : (57343 : Int) < m := by omega
      clear c7
      go_enter Tryz.func97, Tryz.ntmps97
      go_wp2_with fail
      refine h1.mono ?_
      rintro en w1 ⟨k1, (⟨-, rfl, k2⟩ | ⟨hk, -⟩)⟩
      case inr => exact absurd rfl hk
      go_wp2_with fail
      refine (hw1 _ k2).mono ?_
      rintro en w2 ⟨k3, (⟨-, rfl, k4⟩ | ⟨hk, -⟩)⟩
      case inr => exact absurd rfl hk
      go_wp2_with fail
      refine (hw2 _ k4).mono ?_
      rintro en w3 ⟨k5, (⟨-, rfl, k6⟩ | ⟨hk, -⟩)⟩
      case inr => exact absurd rfl hk
      go_wp2_with fail
      refine (hn2 _ k6).mono ?_
      rintro en w4 ⟨k7, (⟨-, rfl, k8⟩ | ⟨hk, -⟩)⟩
      case inr => exact absurd rfl hk
      go_wp2_with fail
      refine ⟨rfl, ?_⟩
      rw [hC.out]
      exact .no (Nat.succ_ne_zero 2) (grownBy.trans (grownBy.trans (grownBy.trans k1 k3) k5) k7)
  rw [if_neg c7] at hcod
  have d4 : decide ((m : Int) < 56320) = false := by simp; omega
  have d5 : decide ((57343 : Int) < m) = false := by simp; omega
  have e1 : ((n : Int) - 55296) = ((n - 55296 : Nat) : Int) := by omega
  obtain ⟨n', hn'⟩ : ∃ n', n - 55296 = n' := ⟨_, rfl⟩
  have hn'2 : n' < 65536 := by omega
  have wa : IntKind.i64.wrap ((n : Int) - 55296) = (n : Int) - 55296 := by simp only [IntKind.wrap, IntKind.signed, IntKind.bits]; simp; omega
  have wb : IntKind.i64.wrap (((n : Int) - 55296) * 1024) = ((n : Int) - 55296) * 1024 := by simp only [IntKind.wrap, IntKind.signed, IntKind.bits]; simp; omega
  have wc : IntKind.i64.wrap (65536 + ((n : Int) - 55296) * 1024) = 65536 + ((n : Int) - 55296) * 1024 := by simp only [IntKind.wrap, IntKind.signed, IntKind.bits]; simp; omega
  have wd : IntKind.i64.wrap (65536 + ((n : Int) - 55296) * 1024 + (m : Int)) = 65536 + ((n : Int) - 55296) * 1024 + (m : Int) := by simp only [IntKind.wrap, IntKind.signed, IntKind.bits]; simp; omega
  have we : IntKind.i64.wrap (65536 + ((n : Int) - 55296) * 1024 + (m : Int) - 56320) = 65536 + ((n : Int) - 55296) * 1024 + (m : Int) - 56320 := by simp only [IntKind.wrap, IntKind.signed, IntKind.bits]; simp; omega
  have hz : ((codeN l : Nat) : Int) = 65536 + ((n : Int) - 55296) * 1024 + (m : Int) - 56320 := by rw [hcn]; omega
  have hC := Lib.hid hcod
  have hZ := Lib.hid hz
  clear hcod hcn hlt1 hlt2 hz e1 hn' hn'2 c7
  unfold rp at *
  go_enter Tryz.func97, Tryz.ntmps97
  go_wp2_with fail
  refine h1.mono ?_
  rintro en w1 ⟨k1, (⟨-, rfl, k2⟩ | ⟨hk, -⟩)⟩
  case inr => exact absurd rfl hk
  go_wp2_with fail
  refine (hw1 _ k2).mono ?_
  rintro en w2 ⟨k3, (⟨-, rfl, k4⟩ | ⟨hk, -⟩)⟩
  case inr => exact absurd rfl hk
  go_wp2_with fail
  refine (hw2 _ k4).mono ?_
  rintro en w3 ⟨k5, (⟨-, rfl, k6⟩ | ⟨hk, -⟩)⟩
  case inr => exact absurd rfl hk
  go_wp2_with fail
  refine (hn2 _ k6).mono ?_
  rintro en w4 ⟨k7, (⟨-, rfl, k8⟩ | ⟨hk, -⟩)⟩
  case inr => exact absurd rfl hk
  go_wp2_with fail
  go_ret
  rw [hC.out, hZ.out]
  rw [List.drop_drop] at k8
  exact .mk k8 (grownBy.trans (grownBy.trans (grownBy.trans k1 k3) k5) k7)
end Go.Proofs.YtehpjidajmoggaaGreatDoor.Quo
