/-
  Several parts in one text (ND).
-/
import Derived.Test.YtogmgfdihmacpaaGreatDoorNC
import Derived.Deep.LoopGhost
/-
  Contracts of package natural, the twelfth part: Gcd, powerOfTwo, Sqrt.
-/
namespace Go.Proofs.YtogmgfdihmacpaaGreatDoor
open Go.RowKit
set_option linter.unusedVariables false

/-- What the loop of Gcd knows. -/
def GcdR (A B : Nat) (w : World) (b : Nat) (u v : Value) (wr : World) : Prop :=
  ∃ a, Sl wr u (nd a) a ∧ Sl wr v (nd b) b ∧ a.gcd b = A.gcd B ∧ nd a ≤ 100 ∧ nd b ≤ 100 ∧ a < Lim ∧ b < Lim ∧ Below w.heap.size w wr

set_option maxHeartbeats 400000 in
theorem gcd_no (s t : ByteArray) (w : World) (h : ¬ (Can s ∧ Can t)) :
    Calls Tryz.prog 92 #[.string s, .string t] w fun e w' => e = .returned (.tuple #[.string (E 0), .int .i64 3]) ∧ w = w' := by
  by_cases hc : Can s
  · have hd : ¬ Can t := fun q => h ⟨hc, q⟩
    have HC := Lib.hid hc; clear hc h
    have HD := Lib.hid hd; clear hd
    go_enter Tryz.func92, Tryz.ntmps92
    go_wp2_with fail
    refine (valid_yes s _ HC.out).mono ?_; rintro e w' ⟨rfl, rfl⟩
    go_wp2_with fail
    refine (valid_no t _ HD.out).mono ?_; rintro e w' ⟨rfl, rfl⟩
    go_wp2
    go_ret2
    exact ⟨rfl, rfl⟩
  · have HC := Lib.hid hc; clear hc h
    go_enter Tryz.func92, Tryz.ntmps92
    go_wp2_with fail
    refine (valid_no s _ HC.out).mono ?_; rintro e w' ⟨rfl, rfl⟩
    go_wp2
    go_ret2
    exact ⟨rfl, rfl⟩

set_option maxHeartbeats 1000000 in
theorem gcd_yes (s t : ByteArray) (w : World) (hs : Can s) (ht : Can t) :
    Calls Tryz.prog 92 #[.string s, .string t] w fun e w' => e = .returned (.tuple #[.string (E ((V s).gcd (V t))), .int .i64 0]) ∧ Below w.heap.size w w' := by
  have h1 := hs.1
  have h2 := ht.1
  have hl1 := V_lim hs
  have HL1 := Lib.hid hl1; clear hl1
  have HL2 := Lib.hid (V_lim ht)
  have HS := Lib.hid hs; clear hs
  have HT := Lib.hid ht; clear ht
  go_enter Tryz.func92, Tryz.ntmps92
  go_wp2_with fail
  refine (valid_yes s _ HS.out).mono ?_; rintro e w' ⟨rfl, rfl⟩
  go_wp2_with fail
  refine (valid_yes t _ HT.out).mono ?_; rintro e w' ⟨rfl, rfl⟩
  go_wp2_with fail
  refine (load_any s _ (by omega)).mono ?_
  rintro e w1 ⟨rfl, hx, hb1⟩
  have HX := Lib.hid (sl_load HS.out hx); clear hx
  go_wp2_with fail
  refine (load_any t _ (by omega)).mono ?_
  rintro e w2 ⟨rfl, hy, hb2⟩
  have HY := Lib.hid (sl_load HT.out hy); clear hy
  have HX2 := Lib.hid (HX.out.below hb2); clear HX
  have hn1 : nd (V s) ≤ 100 := by rw [nd_can HS.out]; omega
  have hn2 : nd (V t) ≤ 100 := by rw [nd_can HT.out]; omega
  have hbw : Below w.heap.size w w2 := hb1.trans (hb2.mono hb1.size)
  go_wp2
  go_loopg [6, 7, 8, 9, 22, 23, 24] (V t) (fun b u v _ _ _ _ _ wr => GcdR (V s) (V t) w b u v wr)
  case atStart => exact ⟨V s, HX2.out, HY.out, rfl, hn1, hn2, HL1.out, HL2.out, hbw⟩
  case round =>
    obtain ⟨a, hu, hv, hg, ha, hb, hal, hbl, hbel⟩ := hrel
    have HBL := Lib.hid hbl; clear hbl
    have HU := Lib.hid hu; clear hu
    have HV := Lib.hid hv
    have HG := Lib.hid hg; clear hg
    have HAL := Lib.hid hal; clear hal
    obtain ⟨A, c, rfl, h3, h4, _⟩ := hv
    by_cases h0 : gk = 0
    · have e0 : nd gk = 0 := by rw [h0]; rfl
      have hgc : a = (V s).gcd (V t) := by rw [← HG.out, h0, Nat.gcd_zero_right]
      have hok := okN_yes HAL.out
      rw [e0] at h3 ⊢
      rw [hgc] at hok
      have HOK := Lib.hid hok; clear hok
      have HGC := Lib.hid hgc; clear hgc h0 e0 hb
      go_wp2_with fail
      refine (store_any _ _ _ _ (nd_lt _) HU.out).mono ?_
      rintro e w4 ⟨rfl, hb4⟩
      rw [HGC.out, HOK.out]
      go_wp2
      go_ret2
      exact ⟨rfl, hbel.trans (hb4.mono hbel.size)⟩
    · have hpos : 0 < gk := by omega
      have hnp := nd_pos hpos
      have hnp2 : (0 : Int) < (nd gk : Int) := by omega
      clear h0
      go_wp2_with fail
      refine (divide_any _ _ a gk _ HU.out HV.out ha hpos hb).mono ?_
      rintro e w3 ⟨v1, v2, rfl, s1, s2, hb3⟩
      have S1 := Lib.hid s1; clear s1
      have S2 := Lib.hid s2; clear s2
      have HV3 := Lib.hid (HV.out.below hb3)
      have hlt : a % gk < gk := Nat.mod_lt _ hpos
      have hgc : gk.gcd (a % gk) = (V s).gcd (V t) := by rw [← HG.out, Nat.gcd_comm a gk, Nat.gcd_rec gk a, Nat.gcd_comm]
      have hnr : nd (a % gk) ≤ 100 := Nat.le_trans (nd_le.2 (Nat.lt_trans hlt (nd_lt gk))) hb
      have HGC := Lib.hid hgc; clear hgc
      go_wp2
      go_roundg (a % gk)
      case measure => exact hlt
      case rel => exact ⟨gk, HV3.out, S2.out, HGC.out, hb, hnr, HBL.out, Nat.lt_trans hlt HBL.out, hbel.trans (hb3.mono hbel.size)⟩

/-! ### powerOfTwo -/
theorem bval_zeros (n : Nat) : bval (List.replicate n 0) = 0 := by
  induction n with
  | zero => rfl
  | succ n ih => rw [List.replicate_succ, bval_cons, ih]; simp
theorem pow_bytes (q r : Nat) (hr : r < 8) : (⟨(UInt8.ofNat (2 ^ r) :: List.replicate q 0).toArray⟩ : ByteArray) = E (2 ^ (8 * q + r)) := by
  have hp : 2 ^ r < 256 := by
    have : 2 ^ r ≤ 2 ^ 7 := Nat.pow_le_pow_right (by omega) (by omega)
    omega
  have h1 : (UInt8.ofNat (2 ^ r)).toNat = 2 ^ r := by rw [UInt8.toNat_ofNat']; exact Nat.mod_eq_of_lt hp
  have hb : bval (UInt8.ofNat (2 ^ r) :: List.replicate q 0) = 2 ^ (8 * q + r) := by
    rw [bval_cons, bval_zeros, h1, List.length_replicate, Nat.pow_add, pow256, Nat.mul_comm]; omega
  have hc : can (UInt8.ofNat (2 ^ r) :: List.replicate q 0) := by
    simp only [can, List.head?_cons, ne_eq, Option.some.injEq]
    intro e
    have := congrArg UInt8.toNat e
    rw [h1] at this
    have h2 := Nat.pow_pos (n := r) (show 0 < 2 by omega)
    have h3 : 2 ^ r = 0 := this
    omega
  unfold E
  rw [← hb, enc_bval hc]

/-! ### Sqrt -/
/-- The square root, rounded down. -/
def isq : Nat → Nat
  | 0 => 0
  | n + 1 => if (isq n + 1) * (isq n + 1) ≤ n + 1 then isq n + 1 else isq n
theorem isq_spec (n : Nat) : isq n * isq n ≤ n ∧ n < (isq n + 1) * (isq n + 1) := by
  induction n with
  | zero => simp [isq]
  | succ n ih =>
    unfold isq
    split
    · rename_i h
      refine ⟨h, ?_⟩
      have : (isq n + 1 + 1) * (isq n + 1 + 1) = (isq n + 1) * (isq n + 1) + (isq n + 1) + (isq n + 1) + 1 := by
        rw [Nat.add_mul (isq n + 1) 1, Nat.mul_add]; omega
      omega
    · rename_i h
      exact ⟨by omega, by omega⟩
theorem isq_unique {n r : Nat} (h1 : r * r ≤ n) (h2 : n < (r + 1) * (r + 1)) : r = isq n := by
  have ⟨h3, h4⟩ := isq_spec n
  rcases Nat.lt_trichotomy r (isq n) with h | h | h
  · have := Nat.mul_le_mul (show r + 1 ≤ isq n from h) (show r + 1 ≤ isq n from h)
    omega
  · exact h
  · have := Nat.mul_le_mul (show isq n + 1 ≤ r from h) (show isq n + 1 ≤ r from h)
    omega
theorem le_isq {n x : Nat} (h : x * x ≤ n) : x ≤ isq n := by
  rcases Nat.lt_or_ge (isq n) x with h1 | h1
  · have := Nat.mul_le_mul (show isq n + 1 ≤ x from h1) (show isq n + 1 ≤ x from h1)
    have := (isq_spec n).2
    omega
  · exact h1
theorem isq_le_newton {n x : Nat} (hx : 0 < x) : isq n ≤ (x + n / x) / 2 := by
  have ⟨h3, _⟩ := isq_spec n
  generalize isq n = r at *
  rw [Nat.le_div_iff_mul_le (by omega)]
  rcases Nat.lt_or_ge (r * 2) x with h | h
  · generalize n / x = z
    omega
  · have : r * 2 - x ≤ n / x := by
      rw [Nat.le_div_iff_mul_le hx]
      refine Nat.le_trans ?_ h3
      rw [Nat.sub_mul]
      rcases Nat.le_total r x with h5 | h5
      · obtain ⟨d, rfl⟩ : ∃ d, x = r + d := ⟨x - r, by omega⟩
        have : r * 2 * (r + d) = r * r + (r + d) * r + r * d := by
          rw [Nat.mul_add, Nat.add_mul, Nat.mul_comm d r, Nat.mul_right_comm r 2 r, Nat.mul_right_comm r 2 d]; omega
        have h6 : (r + d) * (r + d) = (r + d) * r + (r + d) * d := Nat.mul_add _ _ _
        have h7 : (r + d) * d = r * d + d * d := Nat.add_mul _ _ _
        omega
      · obtain ⟨d, rfl⟩ : ∃ d, r = x + d := ⟨r - x, by omega⟩
        have h6 : (x + d) * 2 * x = x * x + x * x + d * x + d * x := by
          rw [Nat.mul_right_comm, Nat.add_mul]; omega
        have h7 : (x + d) * (x + d) = x * x + d * x + (d * x + d * d) := by
          rw [Nat.add_mul, Nat.mul_add, Nat.mul_add, Nat.mul_comm x d]
        omega
    omega
theorem newton_stop {n x : Nat} (hx : 0 < x) (h : x ≤ (x + n / x) / 2) : x * x ≤ n := by
  have : x ≤ n / x := by omega
  exact (Nat.le_div_iff_mul_le hx).1 this

/-- A bound of the first number of Newton's method. -/
def Half : Nat := 256 ^ 64
theorem newton_sum {n x : Nat} (hn : n < Lim) (hx : 0 < x) (hh : x ≤ Half) (hr : isq n ≤ x) : x + n / x < Lim := by
  have ⟨_, h4⟩ := isq_spec n
  have h6 : Lim = 2 * (128 * 256 ^ 127) := lim_eq.trans (by decide +kernel)
  have h7 : Half + 1 ≤ 128 * 256 ^ 127 := by unfold Half; decide +kernel
  have h8 : 100 ≤ 128 * 256 ^ 127 := by decide +kernel
  rw [h6] at hn ⊢
  clear h6
  generalize 128 * 256 ^ 127 = Q at *
  generalize Half = R at *
  rcases Nat.lt_or_ge x 2 with h | h
  · obtain rfl : x = 1 := by omega
    have h5 := Nat.mul_le_mul (show isq n + 1 ≤ 2 by omega) (show isq n + 1 ≤ 2 by omega)
    rw [Nat.div_one]
    omega
  · have h5 : n / x ≤ n / 2 := Nat.div_le_div_left h (by omega)
    generalize n / x = z at *
    omega
theorem log2_lt_bytes {n k : Nat} (h0 : n ≠ 0) (h : n < 256 ^ k) : Nat.log2 n < 8 * k := (Nat.log2_lt h0).2 (by rw [pow256]; exact h)
theorem pow_le_bytes {m k : Nat} (h : m ≤ 8 * k) : 2 ^ m ≤ 256 ^ k := by rw [← pow256]; exact Nat.pow_le_pow_right (by omega) h
theorem first_guess {n : Nat} (hn : n < Lim) (h0 : 0 < n) : isq n ≤ 2 ^ ((nbits n + 1) / 2) ∧ 2 ^ ((nbits n + 1) / 2) ≤ Half ∧ 0 < 2 ^ ((nbits n + 1) / 2) ∧ nbits n ≤ 1024 := by
  have hb : nbits n = Nat.log2 n + 1 := by unfold nbits; rw [if_neg (by omega)]
  have hlt : n < 2 ^ nbits n := by rw [hb]; exact (Nat.log2_lt (by omega)).1 (by omega)
  have hle : nbits n ≤ 1024 := by
    have h1 : Nat.log2 n < 8 * 128 := log2_lt_bytes (Nat.pos_iff_ne_zero.1 h0) hn
    omega
  refine ⟨?_, ?_, Nat.pow_pos (by omega), hle⟩
  · rcases Nat.lt_or_ge (2 ^ ((nbits n + 1) / 2)) (isq n) with h | h
    · have h1 := Nat.mul_le_mul (Nat.le_of_lt h) (Nat.le_of_lt h)
      have h2 := (isq_spec n).1
      rw [← Nat.pow_add] at h1
      have h3 : 2 ^ nbits n ≤ 2 ^ ((nbits n + 1) / 2 + (nbits n + 1) / 2) := Nat.pow_le_pow_right (by omega) (by omega)
      omega
    · exact h
  · exact pow_le_bytes (by omega)

/-- What the loop of Sqrt knows. -/
def SqrtR (n : Nat) (w : World) (x : Nat) (v : Value) (wr : World) : Prop := v = .string (E x) ∧ isq n ≤ x ∧ 0 < x ∧ x ≤ Half ∧ Below w.heap.size w wr
theorem half_lim {x : Nat} (h : x ≤ Half) : x < Lim := by
  have : Half < Lim := by rw [lim_eq]; unfold Half; decide +kernel
  omega
theorem two_lim : 2 < Lim := by rw [lim_eq]; decide +kernel
theorem divN_pos {a b : Nat} (h : 0 < b) : divN a b = .tuple #[.string (E (a / b)), .string (E (a % b)), .int .i64 0] := by unfold divN; rw [if_neg (by omega)]

end Go.Proofs.YtogmgfdihmacpaaGreatDoor


/-
  Contracts of package natural, the thirteenth part: slices.Reverse at bytes; decimal digits.
-/
namespace Go.Proofs.YtogmgfdihmacpaaGreatDoor
open Go.RowKit
set_option linter.unusedVariables false

/-- The k outermost pairs of n places exchanged. -/
def rev (n k : Nat) (h : Nat → Nat) (j : Nat) : Nat := if j < n ∧ (j < k ∨ n - 1 - j < k) then h (n - 1 - j) else h j
/-- Block g has L cells, the first n of which are the bytes h. -/
def RowB (w : World) (g tt L n : Nat) (h : Nat → Nat) : Prop := ∃ f : Nat → Value, w.rowIs g tt L f ∧ ∀ j, j < n → f j = .int .u8 (h j : Nat)
theorem RowB.cell {w : World} {g tt L n : Nat} {h : Nat → Nat} (hr : RowB w g tt L n h) {j : Nat} (hj : j < n) (hL : n ≤ L) : w.cell? ⟨g, j, none⟩ = some (.int .u8 (h j : Nat)) := by
  obtain ⟨f, h1, h2⟩ := hr
  rw [h1.cell (by omega), h2 j hj]
theorem RowB.frozen {w : World} {g tt L n : Nat} {h : Nat → Nat} (hr : RowB w g tt L n h) (j : Nat) : w.frozen? ⟨g, j, none⟩ = false := by
  obtain ⟨f, h1, h2⟩ := hr
  exact h1.frozen j
theorem RowB.swap {w : World} {g tt L n k : Nat} {h : Nat → Nat} (hr : RowB w g tt L n (rev n k h)) (hk : k < n - 1 - k) {a b : Int} (ha : a = (h (n - 1 - k) : Nat)) (hb : b = (h k : Nat)) :
    RowB ((w.setCell ⟨g, k, none⟩ (.int .u8 a)).setCell ⟨g, n - 1 - k, none⟩ (.int .u8 b)) g tt L n (rev n (k + 1) h) := by
  obtain ⟨f, h1, h2⟩ := hr
  refine ⟨_, (h1.set k _).set (n - 1 - k) _, fun j hj => ?_⟩
  have e := h2 j hj
  by_cases e1 : j = n - 1 - k
  · rw [if_pos e1, hb]
    unfold rev
    rw [if_pos (by omega), show n - 1 - j = k by omega]
  · rw [if_neg e1]
    by_cases e2 : j = k
    · rw [if_pos e2, ha]
      unfold rev
      rw [if_pos (by omega), e2]
    · rw [if_neg e2, e]
      unfold rev
      by_cases e3 : j < k ∨ n - 1 - j < k
      · rw [if_pos ⟨hj, e3⟩, if_pos (by omega)]
      · rw [if_neg (by omega), if_neg (by omega)]

/-! ### Decimal digits -/
/-- Decimal digit k. -/
def dd (n k : Nat) : Nat := n / 10 ^ k % 10
theorem dd_lt (n k : Nat) : dd n k < 10 := Nat.mod_lt _ (by omega)
/-- The number of decimal digits. -/
def dlen : Nat → Nat → Nat
  | 0, _ => 0
  | f + 1, n => if n = 0 then 0 else dlen f (n / 10) + 1
def ndec (n : Nat) : Nat := dlen n n
theorem dlen_spec : ∀ f n, n ≤ f → n < 10 ^ dlen f n ∧ (0 < n → 10 ^ (dlen f n - 1) ≤ n ∧ 0 < dlen f n) := by
  intro f
  induction f with
  | zero => intro n h; have : n = 0 := by omega
            subst this; simp [dlen]
  | succ f ih =>
    intro n h
    unfold dlen
    split
    · rename_i e; subst e; simp
    · rename_i e
      have ⟨h1, h2⟩ := ih (n / 10) (by omega)
      refine ⟨by rw [Nat.pow_succ]; omega, fun _ => ⟨?_, by omega⟩⟩
      rw [Nat.add_sub_cancel]
      rcases Nat.eq_zero_or_pos (n / 10) with h0 | h0
      · rw [h0] at h1 ⊢
        have : dlen f 0 = 0 := by cases f <;> simp [dlen]
        rw [this]; simp; omega
      · have ⟨h3, h4⟩ := h2 h0
        obtain ⟨k, hk⟩ : ∃ k, dlen f (n / 10) = k + 1 := ⟨dlen f (n / 10) - 1, by omega⟩
        rw [hk] at h3 ⊢
        rw [Nat.add_sub_cancel] at h3
        rw [Nat.pow_succ]; omega
theorem ndec_hi (n : Nat) : n < 10 ^ ndec n := (dlen_spec n n (Nat.le_refl _)).1
theorem ndec_lo {n : Nat} (h : 0 < n) : 10 ^ (ndec n - 1) ≤ n ∧ 0 < ndec n := (dlen_spec n n (Nat.le_refl _)).2 h
theorem ndec_le {n k : Nat} : ndec n ≤ k ↔ n < 10 ^ k := by
  constructor
  · intro h; exact Nat.lt_of_lt_of_le (ndec_hi n) (Nat.pow_le_pow_right (by omega) h)
  · intro h
    rcases Nat.eq_zero_or_pos n with e | e
    · subst e; exact Nat.zero_le _
    · have ⟨h1, h2⟩ := ndec_lo e
      have := (Nat.pow_lt_pow_iff_right (a := 10) (by omega)).1 (Nat.lt_of_le_of_lt h1 h)
      omega
theorem dd_high {n k : Nat} (h : n < 10 ^ k) : dd n k = 0 := by unfold dd; rw [Nat.div_eq_of_lt h]
theorem dd_top {n : Nat} (h : 0 < n) : dd n (ndec n - 1) ≠ 0 := by
  have ⟨h1, h2⟩ := ndec_lo h
  have h3 := ndec_hi n
  obtain ⟨k, hk⟩ : ∃ k, ndec n = k + 1 := ⟨ndec n - 1, by omega⟩
  rw [hk] at h1 h3 ⊢
  rw [Nat.add_sub_cancel] at *
  unfold dd
  have hp := Nat.pow_pos (n := k) (show 0 < 10 by omega)
  have h4 : n / 10 ^ k < 10 := Nat.div_lt_of_lt_mul (by rw [Nat.pow_succ] at h3; exact h3)
  have h5 : 1 ≤ n / 10 ^ k := (Nat.le_div_iff_mul_le hp).2 (by omega)
  omega
/-- The text of a number: its decimal digits, the highest one first. -/
def decT (n : Nat) : List UInt8 := if n = 0 then [48] else (List.range (ndec n)).map fun j => UInt8.ofNat (48 + dd n (ndec n - 1 - j))
/-- The text as a string. -/
def T (n : Nat) : ByteArray := ⟨(decT n).toArray⟩
/-- A chunk's digits are the number's. -/
theorem dd_chunk (n i j : Nat) (h : j < 9) : n / 10 ^ (9 * i) % 1000000000 / 10 ^ j % 10 = dd n (9 * i + j) := by
  have e : (1000000000 : Nat) = 10 ^ j * (10 * 10 ^ (8 - j)) := by
    rw [← Nat.pow_succ', ← Nat.pow_add, show j + (8 - j + 1) = 9 by omega]
  unfold dd
  rw [e, Nat.mod_mul_right_div_self, Nat.mod_mul_right_mod, Nat.div_div_eq_div_mul, ← Nat.pow_add]
theorem chunk_next (n i : Nat) : n / 10 ^ (9 * i) / 1000000000 = n / 10 ^ (9 * (i + 1)) := by
  rw [Nat.div_div_eq_div_mul]
  have : 10 ^ (9 * (i + 1)) = 10 ^ (9 * i) * 1000000000 := by rw [Nat.mul_add, Nat.pow_add]
  rw [this]
theorem chunk_bound {n i : Nat} (hn : n < Lim) (h : 0 < n / 10 ^ (9 * i)) : i < 128 := by
  have h1 : 10 ^ (9 * i) ≤ n := by
    rcases Nat.lt_or_ge n (10 ^ (9 * i)) with h2 | h2
    · rw [Nat.div_eq_of_lt h2] at h; omega
    · exact h2
  have h2 : 256 ^ i ≤ 10 ^ (9 * i) := by rw [Nat.pow_mul]; exact Nat.pow_le_pow_left (by omega) i
  have h3 : 256 ^ i < 256 ^ 128 := by rw [← lim_eq]; omega
  exact (Nat.pow_lt_pow_iff_right (a := 256) (by omega)).1 h3

end Go.Proofs.YtogmgfdihmacpaaGreatDoor


/-
  Contracts of package natural, the fourteenth part: Text.
-/
namespace Go.Proofs.YtogmgfdihmacpaaGreatDoor
open Go.RowKit
set_option linter.unusedVariables false

/-- The first K decimal digits as bytes, the lowest one first. -/
def digs (n K : Nat) : List Value := (List.range K).map fun k => Value.int .u8 (48 + dd n k : Nat)
theorem digs_succ (n K : Nat) : digs n (K + 1) = digs n K ++ [Value.int .u8 (48 + dd n K : Nat)] := by
  unfold digs; rw [List.range_succ, List.map_append]; rfl
theorem digs_length (n K : Nat) : (digs n K).length = K := by simp [digs]

/-- What the outer loop of Text knows. -/
def TextR (v m g B : Nat) (w : World) (N : Nat) (text d : Value) (wr : World) : Prop :=
  ∃ i, N = v / 10 ^ (9 * i) ∧ d = .slice (some ⟨g, 0, none⟩) (nd N) m ∧ Row wr g 86 m (nd N) N ∧ wr.ownsRow B 5 1 text (9 * i) (digs v (9 * i)) ∧ Below w.heap.size w wr ∧ B ≤ wr.heap.size
/-- What the inner loop knows. -/
def TextI (v m g B i M n1 N2 : Nat) (w : World) (text part j : Value) (wr : World) : Prop :=
  ∃ k : Nat, k ≤ 9 ∧ j = .int .i64 k ∧ part = .int .u32 (M / 10 ^ k : Nat) ∧ Row wr g 86 m n1 N2 ∧ wr.ownsRow B 5 1 text (9 * i + k) (digs v (9 * i + k)) ∧ Below w.heap.size w wr ∧ B ≤ wr.heap.size

theorem own_only {w w' : World} {base e size n g : Nat} {v : Value} {xs : List Value} (h : w.ownsRow base e size v n xs) (ho : Only g w w') (hg : g < base) : w'.ownsRow base e size v n xs := by
  obtain ⟨h1, h2⟩ := h
  refine ⟨h1, ?_⟩
  rcases h2 with h2 | ⟨k, cap, cur, hv, hk, hh, r⟩
  · exact .inl h2
  · refine .inr ⟨k, cap, cur, hv, hk, ?_, r⟩
    have hlt : k < w.heap.size := by
      rcases Nat.lt_or_ge k w.heap.size with h | h
      · exact h
      · rw [Array.getElem?_eq_none h] at hh; cases hh
    rw [ho.block k hlt (by omega)]; exact hh
theorem Row.grown {w w' : World} {g tt L n N : Nat} {row : Option Nat} (h : Row w g tt L n N) (hg : w.grownBy w' row) (hn : some g ≠ row) : Row w' g tt L n N := by
  obtain ⟨f, h1, h2⟩ := h
  exact ⟨f, h1.of_block (hg.block g h1.lt hn), h2⟩
theorem own_block_ge {w : World} {base e size n : Nat} {v : Value} {xs : List Value} (h : w.ownsRow base e size v n xs) : ∀ k, v.ownBlock = some k → base ≤ k := by
  intro k hk
  rcases h.2 with ⟨rfl, _⟩ | ⟨g, cap, cur, rfl, hg, _⟩
  · cases hk
  · have : g = k := by simpa [Value.ownBlock] using hk
    omega

theorem ndec_bytes {n k : Nat} (h : n < 256 ^ k) : ndec n ≤ 3 * k := ndec_le.2 (Nat.lt_of_lt_of_le h (by rw [Nat.pow_mul]; exact Nat.pow_le_pow_left (by omega) k))
theorem run_bytes_str {w : World} {g o : Nat} {l : List UInt8} (h : Bytes w g o l) (c n : Nat) (hn : n = l.length) :
    (convert 83 9 (.slice (some ⟨g, o, none⟩) n c)).run Tryz.prog w = .ok (.string ⟨l.toArray⟩) w := by
  subst hn
  have := run_convert_bytes_arg (P := Tryz.prog) w 83 5 Tryz.und83 Tryz.und5 g o l.length c (l.map fun c => (c.toNat : Int)) (by simp) (fun i hi => by
    rw [h i hi]; simp [List.getD, hi]) 9 (by kernel_rfl)
  rw [this, strOfNums_bytes]
theorem decT_pos {n : Nat} (h : 0 < n) : decT n = (List.range (ndec n)).map fun j => UInt8.ofNat (48 + dd n (ndec n - 1 - j)) := by unfold decT; rw [if_neg (by omega)]
theorem bytes_decT {w : World} {g tt L n : Nat} (hr : RowB w g tt L (ndec n) (fun j => 48 + dd n (ndec n - 1 - j))) (hL : ndec n ≤ L) (h : 0 < n) : Bytes w g 0 (decT n) := by
  intro j hj
  rw [decT_pos h] at hj ⊢
  have hj' : j < ndec n := by simpa using hj
  rw [Nat.zero_add, hr.cell hj' hL]
  have hd := dd_lt n (ndec n - 1 - j)
  have e : (UInt8.ofNat (48 + dd n (ndec n - 1 - j))).toNat = 48 + dd n (ndec n - 1 - j) := by
    rw [UInt8.toNat_ofNat']; exact Nat.mod_eq_of_lt (by omega)
  rw [List.getElem?_map, List.getElem?_range hj', Option.map_some, Option.getD_some, e]
theorem decT_length {n : Nat} (h : 0 < n) : (decT n).length = ndec n := by rw [decT_pos h]; simp

end Go.Proofs.YtogmgfdihmacpaaGreatDoor

