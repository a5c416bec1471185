/-
  Contracts of package natural, the twelfth part: Gcd, powerOfTwo, Sqrt.
-/
import Derived.Test.YtjbcicgbemepbaaDoorNat11
import Derived.Deep.LoopGhost
namespace Go.Proofs.YtjbcicgbemepbaaDoor
open Go.RowKit
set_option linter.unusedVariables false

/-- What the loop of Gcd knows. -/
def GcdR (A B : Nat) (w : World) (b : Nat) (u v : Value) (wr : World) : Prop :=
  ∃ a, Sl wr u (nd a) a ∧ Sl wr v (nd b) b ∧ a.gcd b = A.gcd B ∧ nd a ≤ 100 ∧ nd b ≤ 100 ∧ a < Lim ∧ b < Lim ∧ Below w.heap.size w wr

set_option maxHeartbeats 400000 in
theorem gcd_no (s t : ByteArray) (w : World) (h : ¬ (Can s ∧ Can t)) :
    Calls Tryd.prog 11 #[.string s, .string t] w fun e w' => e = .returned (.tuple #[.string (E 0), .int .i64 3]) ∧ w = w' := by
  by_cases hc : Can s
  · have hd : ¬ Can t := fun q => h ⟨hc, q⟩
    have HC := Lib.hid hc; clear hc h
    have HD := Lib.hid hd; clear hd
    go_enter Tryd.func11, Tryd.ntmps11
    go_wp2_with fail
    refine (valid_yes s _ HC.out).mono ?_; rintro e w' ⟨rfl, rfl⟩
    go_wp2_with fail
    refine (valid_no t _ HD.out).mono ?_; rintro e w' ⟨rfl, rfl⟩
    go_wp2
    go_ret2
    exact ⟨rfl, rfl⟩
  · have HC := Lib.hid hc; clear hc h
    go_enter Tryd.func11, Tryd.ntmps11
    go_wp2_with fail
    refine (valid_no s _ HC.out).mono ?_; rintro e w' ⟨rfl, rfl⟩
    go_wp2
    go_ret2
    exact ⟨rfl, rfl⟩

set_option maxHeartbeats 1000000 in
theorem gcd_yes (s t : ByteArray) (w : World) (hs : Can s) (ht : Can t) :
    Calls Tryd.prog 11 #[.string s, .string t] w fun e w' => e = .returned (.tuple #[.string (E ((V s).gcd (V t))), .int .i64 0]) ∧ Below w.heap.size w w' := by
  have h1 := hs.1
  have h2 := ht.1
  have hl1 := V_lim hs
  have HL1 := Lib.hid hl1; clear hl1
  have HL2 := Lib.hid (V_lim ht)
  have HS := Lib.hid hs; clear hs
  have HT := Lib.hid ht; clear ht
  go_enter Tryd.func11, Tryd.ntmps11
  go_wp2_with fail
  refine (valid_yes s _ HS.out).mono ?_; rintro e w' ⟨rfl, rfl⟩
  go_wp2_with fail
  refine (valid_yes t _ HT.out).mono ?_; rintro e w' ⟨rfl, rfl⟩
  go_wp2_with fail
  refine (load_any s _ (by omega)).mono ?_
  rintro e w1 ⟨rfl, hx, hb1⟩
  have HX := Lib.hid (sl_load HS.out hx); clear hx
  go_wp2_with fail
  refine (load_any t _ (by omega)).mono ?_
  rintro e w2 ⟨rfl, hy, hb2⟩
  have HY := Lib.hid (sl_load HT.out hy); clear hy
  have HX2 := Lib.hid (HX.out.below hb2); clear HX
  have hn1 : nd (V s) ≤ 100 := by rw [nd_can HS.out]; omega
  have hn2 : nd (V t) ≤ 100 := by rw [nd_can HT.out]; omega
  have hbw : Below w.heap.size w w2 := hb1.trans (hb2.mono hb1.size)
  go_wp2
  go_loopg [6, 7, 8, 9, 22, 23, 24] (V t) (fun b u v _ _ _ _ _ wr => GcdR (V s) (V t) w b u v wr)
  case atStart => exact ⟨V s, HX2.out, HY.out, rfl, hn1, hn2, HL1.out, HL2.out, hbw⟩
  case round =>
    obtain ⟨a, hu, hv, hg, ha, hb, hal, hbl, hbel⟩ := hrel
    have HBL := Lib.hid hbl; clear hbl
    have HU := Lib.hid hu; clear hu
    have HV := Lib.hid hv
    have HG := Lib.hid hg; clear hg
    have HAL := Lib.hid hal; clear hal
    obtain ⟨A, c, rfl, h3, h4, _⟩ := hv
    by_cases h0 : gk = 0
    · have e0 : nd gk = 0 := by rw [h0]; rfl
      have hgc : a = (V s).gcd (V t) := by rw [← HG.out, h0, Nat.gcd_zero_right]
      have hok := okN_yes HAL.out
      rw [e0] at h3 ⊢
      rw [hgc] at hok
      have HOK := Lib.hid hok; clear hok
      have HGC := Lib.hid hgc; clear hgc h0 e0 hb
      go_wp2_with fail
      refine (store_any _ _ _ _ (nd_lt _) HU.out).mono ?_
      rintro e w4 ⟨rfl, hb4⟩
      rw [HGC.out, HOK.out]
      go_wp2
      go_ret2
      exact ⟨rfl, hbel.trans (hb4.mono hbel.size)⟩
    · have hpos : 0 < gk := by omega
      have hnp := nd_pos hpos
      have hnp2 : (0 : Int) < (nd gk : Int) := by omega
      clear h0
      go_wp2_with fail
      refine (divide_any _ _ a gk _ HU.out HV.out ha hpos hb).mono ?_
      rintro e w3 ⟨v1, v2, rfl, s1, s2, hb3⟩
      have S1 := Lib.hid s1; clear s1
      have S2 := Lib.hid s2; clear s2
      have HV3 := Lib.hid (HV.out.below hb3)
      have hlt : a % gk < gk := Nat.mod_lt _ hpos
      have hgc : gk.gcd (a % gk) = (V s).gcd (V t) := by rw [← HG.out, Nat.gcd_comm a gk, Nat.gcd_rec gk a, Nat.gcd_comm]
      have hnr : nd (a % gk) ≤ 100 := Nat.le_trans (nd_le.2 (Nat.lt_trans hlt (nd_lt gk))) hb
      have HGC := Lib.hid hgc; clear hgc
      go_wp2
      go_roundg (a % gk)
      case measure => exact hlt
      case rel => exact ⟨gk, HV3.out, S2.out, HGC.out, hb, hnr, HBL.out, Nat.lt_trans hlt HBL.out, hbel.trans (hb3.mono hbel.size)⟩

/-! ### powerOfTwo -/
theorem bval_zeros (n : Nat) : bval (List.replicate n 0) = 0 := by
  induction n with
  | zero => rfl
  | succ n ih => rw [List.replicate_succ, bval_cons, ih]; simp
theorem pow_bytes (q r : Nat) (hr : r < 8) : (⟨(UInt8.ofNat (2 ^ r) :: List.replicate q 0).toArray⟩ : ByteArray) = E (2 ^ (8 * q + r)) := by
  have hp : 2 ^ r < 256 := by
    have : 2 ^ r ≤ 2 ^ 7 := Nat.pow_le_pow_right (by omega) (by omega)
    omega
  have h1 : (UInt8.ofNat (2 ^ r)).toNat = 2 ^ r := by rw [UInt8.toNat_ofNat']; exact Nat.mod_eq_of_lt hp
  have hb : bval (UInt8.ofNat (2 ^ r) :: List.replicate q 0) = 2 ^ (8 * q + r) := by
    rw [bval_cons, bval_zeros, h1, List.length_replicate, Nat.pow_add, pow256, Nat.mul_comm]; omega
  have hc : can (UInt8.ofNat (2 ^ r) :: List.replicate q 0) := by
    simp only [can, List.head?_cons, ne_eq, Option.some.injEq]
    intro e
    have := congrArg UInt8.toNat e
    rw [h1] at this
    have h2 := Nat.pow_pos (n := r) (show 0 < 2 by omega)
    have h3 : 2 ^ r = 0 := this
    omega
  unfold E
  rw [← hb, enc_bval hc]

/-! ### Sqrt -/
/-- The square root, rounded down. -/
def isq : Nat → Nat
  | 0 => 0
  | n + 1 => if (isq n + 1) * (isq n + 1) ≤ n + 1 then isq n + 1 else isq n
theorem isq_spec (n : Nat) : isq n * isq n ≤ n ∧ n < (isq n + 1) * (isq n + 1) := by
  induction n with
  | zero => simp [isq]
  | succ n ih =>
    unfold isq
    split
    · rename_i h
      refine ⟨h, ?_⟩
      have : (isq n + 1 + 1) * (isq n + 1 + 1) = (isq n + 1) * (isq n + 1) + (isq n + 1) + (isq n + 1) + 1 := by
        rw [Nat.add_mul (isq n + 1) 1, Nat.mul_add]; omega
      omega
    · rename_i h
      exact ⟨by omega, by omega⟩
theorem isq_unique {n r : Nat} (h1 : r * r ≤ n) (h2 : n < (r + 1) * (r + 1)) : r = isq n := by
  have ⟨h3, h4⟩ := isq_spec n
  rcases Nat.lt_trichotomy r (isq n) with h | h | h
  · have := Nat.mul_le_mul (show r + 1 ≤ isq n from h) (show r + 1 ≤ isq n from h)
    omega
  · exact h
  · have := Nat.mul_le_mul (show isq n + 1 ≤ r from h) (show isq n + 1 ≤ r from h)
    omega
theorem le_isq {n x : Nat} (h : x * x ≤ n) : x ≤ isq n := by
  rcases Nat.lt_or_ge (isq n) x with h1 | h1
  · have := Nat.mul_le_mul (show isq n + 1 ≤ x from h1) (show isq n + 1 ≤ x from h1)
    have := (isq_spec n).2
    omega
  · exact h1
theorem isq_le_newton {n x : Nat} (hx : 0 < x) : isq n ≤ (x + n / x) / 2 := by
  have ⟨h3, _⟩ := isq_spec n
  generalize isq n = r at *
  rw [Nat.le_div_iff_mul_le (by omega)]
  rcases Nat.lt_or_ge (r * 2) x with h | h
  · generalize n / x = z
    omega
  · have : r * 2 - x ≤ n / x := by
      rw [Nat.le_div_iff_mul_le hx]
      refine Nat.le_trans ?_ h3
      rw [Nat.sub_mul]
      rcases Nat.le_total r x with h5 | h5
      · obtain ⟨d, rfl⟩ : ∃ d, x = r + d := ⟨x - r, by omega⟩
        have : r * 2 * (r + d) = r * r + (r + d) * r + r * d := by
          rw [Nat.mul_add, Nat.add_mul, Nat.mul_comm d r, Nat.mul_right_comm r 2 r, Nat.mul_right_comm r 2 d]; omega
        have h6 : (r + d) * (r + d) = (r + d) * r + (r + d) * d := Nat.mul_add _ _ _
        have h7 : (r + d) * d = r * d + d * d := Nat.add_mul _ _ _
        omega
      · obtain ⟨d, rfl⟩ : ∃ d, r = x + d := ⟨r - x, by omega⟩
        have h6 : (x + d) * 2 * x = x * x + x * x + d * x + d * x := by
          rw [Nat.mul_right_comm, Nat.add_mul]; omega
        have h7 : (x + d) * (x + d) = x * x + d * x + (d * x + d * d) := by
          rw [Nat.add_mul, Nat.mul_add, Nat.mul_add, Nat.mul_comm x d]
        omega
    omega
theorem newton_stop {n x : Nat} (hx : 0 < x) (h : x ≤ (x + n / x) / 2) : x * x ≤ n := by
  have : x ≤ n / x := by omega
  exact (Nat.le_div_iff_mul_le hx).1 this

/-- A bound of the first number of Newton's method. -/
def Half : Nat := 256 ^ 64
theorem newton_sum {n x : Nat} (hn : n < Lim) (hx : 0 < x) (hh : x ≤ Half) (hr : isq n ≤ x) : x + n / x < Lim := by
  have ⟨_, h4⟩ := isq_spec n
  have h6 : Lim = 2 * (128 * 256 ^ 127) := lim_eq.trans (by decide +kernel)
  have h7 : Half + 1 ≤ 128 * 256 ^ 127 := by unfold Half; decide +kernel
  have h8 : 100 ≤ 128 * 256 ^ 127 := by decide +kernel
  rw [h6] at hn ⊢
  clear h6
  generalize 128 * 256 ^ 127 = Q at *
  generalize Half = R at *
  rcases Nat.lt_or_ge x 2 with h | h
  · obtain rfl : x = 1 := by omega
    have h5 := Nat.mul_le_mul (show isq n + 1 ≤ 2 by omega) (show isq n + 1 ≤ 2 by omega)
    rw [Nat.div_one]
    omega
  · have h5 : n / x ≤ n / 2 := Nat.div_le_div_left h (by omega)
    generalize n / x = z at *
    omega
theorem log2_lt_bytes {n k : Nat} (h0 : n ≠ 0) (h : n < 256 ^ k) : Nat.log2 n < 8 * k := (Nat.log2_lt h0).2 (by rw [pow256]; exact h)
theorem pow_le_bytes {m k : Nat} (h : m ≤ 8 * k) : 2 ^ m ≤ 256 ^ k := by rw [← pow256]; exact Nat.pow_le_pow_right (by omega) h
theorem first_guess {n : Nat} (hn : n < Lim) (h0 : 0 < n) : isq n ≤ 2 ^ ((nbits n + 1) / 2) ∧ 2 ^ ((nbits n + 1) / 2) ≤ Half ∧ 0 < 2 ^ ((nbits n + 1) / 2) ∧ nbits n ≤ 1024 := by
  have hb : nbits n = Nat.log2 n + 1 := by unfold nbits; rw [if_neg (by omega)]
  have hlt : n < 2 ^ nbits n := by rw [hb]; exact (Nat.log2_lt (by omega)).1 (by omega)
  have hle : nbits n ≤ 1024 := by
    have h1 : Nat.log2 n < 8 * 128 := log2_lt_bytes (Nat.pos_iff_ne_zero.1 h0) hn
    omega
  refine ⟨?_, ?_, Nat.pow_pos (by omega), hle⟩
  · rcases Nat.lt_or_ge (2 ^ ((nbits n + 1) / 2)) (isq n) with h | h
    · have h1 := Nat.mul_le_mul (Nat.le_of_lt h) (Nat.le_of_lt h)
      have h2 := (isq_spec n).1
      rw [← Nat.pow_add] at h1
      have h3 : 2 ^ nbits n ≤ 2 ^ ((nbits n + 1) / 2 + (nbits n + 1) / 2) := Nat.pow_le_pow_right (by omega) (by omega)
      omega
    · exact h
  · exact pow_le_bytes (by omega)

/-- What the loop of Sqrt knows. -/
def SqrtR (n : Nat) (w : World) (x : Nat) (v : Value) (wr : World) : Prop := v = .string (E x) ∧ isq n ≤ x ∧ 0 < x ∧ x ≤ Half ∧ Below w.heap.size w wr
theorem half_lim {x : Nat} (h : x ≤ Half) : x < Lim := by
  have : Half < Lim := by rw [lim_eq]; unfold Half; decide +kernel
  omega
theorem two_lim : 2 < Lim := by rw [lim_eq]; decide +kernel
theorem divN_pos {a b : Nat} (h : 0 < b) : divN a b = .tuple #[.string (E (a / b)), .string (E (a % b)), .int .i64 0] := by unfold divN; rw [if_neg (by omega)]

end Go.Proofs.YtjbcicgbemepbaaDoor
