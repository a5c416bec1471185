/-
  Contracts of package natural, the eighth part: the library's Add32 and Sub32; guess.
-/
import Derived.Test.YtjbcicgbemepbaaDoorNat7
namespace Go.Proofs.YtjbcicgbemepbaaDoor
open Go.RowKit
set_option linter.unusedVariables false

set_option maxHeartbeats 400000 in
theorem add32_any (x y c : Nat) (w : World) (hx : x < 4294967296) (hy : y < 4294967296) (hc : c ≤ 1) :
    Calls Tryd.prog 77 #[.int .u32 x, .int .u32 y, .int .u32 c] w fun e w' => e = .returned (.tuple #[.int .u32 ((x + y + c) % 4294967296 : Nat), .int .u32 ((x + y + c) / 4294967296 : Nat)]) ∧ w = w' := by
  go_enter Tryd.func77, Tryd.ntmps77
  go_wp2
  go_ret2
  exact ⟨rfl, rfl⟩

/-- The borrow behind a digit. -/
def bout (x y b : Nat) : Nat := if x < y + b then 1 else 0
/-- The digit of a difference. -/
def bdig (x y b : Nat) : Nat := (x + 4294967296 - y + (4294967296 - b)) % 4294967296
theorem bdig_lt (x y b : Nat) : bdig x y b < 4294967296 := Nat.mod_lt _ (by omega)
theorem top_bit {v : Nat} (h : v < 4294967296) : v / 2147483648 = (v.testBit 31).toNat := by
  rw [Nat.testBit_eq_decide_div_mod_eq]
  have h2 : v / 2 ^ 31 < 2 := Nat.div_lt_of_lt_mul (by omega)
  have e : v / 2147483648 = v / 2 ^ 31 := rfl
  rw [e]
  generalize v / 2 ^ 31 = q at *
  have : q = 0 ∨ q = 1 := by omega
  rcases this with rfl | rfl <;> rfl
theorem bit31 {v : Nat} (h : v < 4294967296) : v.testBit 31 = decide (2147483648 ≤ v) := by
  rw [Nat.testBit_eq_decide_div_mod_eq]
  have h2 : v / 2 ^ 31 < 2 := Nat.div_lt_of_lt_mul (by omega)
  rw [Nat.mod_eq_of_lt h2]
  congr 1
  apply propext
  constructor
  · intro h3; omega
  · intro h3; omega
theorem sub_top (x y b : Nat) (hx : x < 4294967296) (hy : y < 4294967296) (hb : b ≤ 1) :
    ((4294967295 ^^^ x) &&& y ||| (4294967295 ^^^ (x ^^^ y)) &&& bdig x y b) / 2147483648 = bout x y b := by
  have hd := bdig_lt x y b
  have h1 : (4294967295 ^^^ x) &&& y < 2 ^ 32 := Nat.and_lt_two_pow _ (by omega)
  have h2 : (4294967295 ^^^ (x ^^^ y)) &&& bdig x y b < 2 ^ 32 := Nat.and_lt_two_pow _ (by omega)
  have h3 := Nat.or_lt_two_pow h1 h2
  rw [top_bit (by omega), Nat.testBit_or, Nat.testBit_and, Nat.testBit_and, Nat.testBit_xor, Nat.testBit_xor, Nat.testBit_xor, bit31 hx, bit31 hy, bit31 hd,
    show Nat.testBit 4294967295 31 = true from by decide +kernel]
  unfold bout bdig
  have e : x < y + b ∨ ¬ x < y + b := by omega
  by_cases a : 2147483648 ≤ x <;> by_cases c : 2147483648 ≤ y <;> by_cases d : 2147483648 ≤ (x + 4294967296 - y + (4294967296 - b)) % 4294967296 <;> rcases e with e | e <;> simp only [a, c, d, e, decide_true, decide_false, if_true, if_false] <;> first | rfl | (exfalso; omega)
theorem u32_max : IntKind.u32.max = (4294967295 : Nat) := by decide
theorem sub_bits (x y b : Nat) (hx : x < 4294967296) (hy : y < 4294967296) (hb : b ≤ 1) :
    bits .or .u32 (bits .and .u32 (bits .xor .u32 IntKind.u32.max x) y) (bits .and .u32 (bits .xor .u32 IntKind.u32.max (bits .xor .u32 x y)) (bdig x y b)) / 2147483648 = (bout x y b : Nat) := by
  have hd := bdig_lt x y b
  have h4 : x ^^^ y < 2 ^ 32 := Nat.xor_lt_two_pow (by omega) (by omega)
  have h5 : 4294967295 ^^^ x < 2 ^ 32 := Nat.xor_lt_two_pow (by omega) (by omega)
  have h6 : 4294967295 ^^^ (x ^^^ y) < 2 ^ 32 := Nat.xor_lt_two_pow (by omega) h4
  have h1 : (4294967295 ^^^ x) &&& y < 2 ^ 32 := Nat.and_lt_two_pow _ (by omega)
  have h2 : (4294967295 ^^^ (x ^^^ y)) &&& bdig x y b < 2 ^ 32 := Nat.and_lt_two_pow _ (by omega)
  rw [u32_max, u32_xor_nat _ _ (by omega) hx, u32_xor_nat _ _ hx hy, u32_xor_nat _ _ (by omega) (by omega), u32_and_nat _ _ (by omega) hy, u32_and_nat _ _ (by omega) hd, u32_or_nat _ _ (by omega) (by omega), ← sub_top x y b hx hy hb]
  simp
theorem bdig_int (x y b : Nat) (hx : x < 4294967296) (hy : y < 4294967296) (hb : b ≤ 1) : ((x : Int) - y - b) % 4294967296 = (bdig x y b : Nat) := by
  unfold bdig; omega

set_option maxHeartbeats 400000 in
theorem sub32_any (x y b : Nat) (w : World) (hx : x < 4294967296) (hy : y < 4294967296) (hb : b ≤ 1) :
    Calls Tryd.prog 76 #[.int .u32 x, .int .u32 y, .int .u32 b] w fun e w' => e = .returned (.tuple #[.int .u32 (bdig x y b : Nat), .int .u32 (bout x y b : Nat)]) ∧ w = w' := by
  have hsg : IntKind.u32.signed = false := rfl
  have h1 := Lib.hid (sub_bits x y b hx hy hb)
  have h2 := Lib.hid (bdig_int x y b hx hy hb)
  go_enter Tryd.func76, Tryd.ntmps76
  go_wp2
  go_ret2
  exact ⟨ret_two (int_eq (by rw [← h2.out]; omega)) (int_eq (by rw [← h1.out, ← h2.out])), rfl⟩

/-! ### guess -/
/-- What the loop of guess knows: q d1 + r is the two highest digits, and q is not less than the quotient. -/
structure Gs (D P d1 d2 p2 p q r top t : Nat) : Prop where
  eq : q * d1 + r = top
  lo : P / D ≤ q
  d1p : 1 ≤ d1
  d1l : d1 < B32
  d2l : d2 < B32
  p2l : p2 < B32
  Dl : (d1 * B32 + d2) * p ≤ D
  Dh : D < (d1 * B32 + d2 + 1) * p
  Pl : (top * B32 + p2) * p ≤ P
  Ph : P < (top * B32 + p2 + 1) * p
  toph : top < (d1 + 1) * B32
  D0 : 0 < D
  p0 : 0 < p

theorem Gs.down {D P d1 d2 p2 p q r top t : Nat} (h : Gs D P d1 d2 p2 p q r top t) (hPD : P < D * B32) (hc : B32 ≤ q ∨ r * B32 + p2 < q * d2) : P / D ≤ q - 1 ∧ 1 ≤ q := by
  have key : P / D < q := by
    rcases hc with hc | hc
    · exact Nat.lt_of_lt_of_le (Nat.div_lt_of_lt_mul hPD) hc
    · apply Nat.div_lt_of_lt_mul
      have e1 : top * B32 + p2 + 1 ≤ q * (d1 * B32 + d2) := by
        have : top * B32 = q * (d1 * B32) + r * B32 := by rw [← h.eq, Nat.add_mul, Nat.mul_assoc]
        rw [this, Nat.mul_add]; omega
      have e2 := Nat.mul_le_mul_right p e1
      have e3 := Nat.mul_le_mul_left q h.Dl
      have := h.Ph
      rw [← Nat.mul_assoc] at e3
      rw [Nat.mul_comm D q]
      omega
  generalize P / D = z at *
  omega

/-- The guess is right, or too large by 1. -/
theorem Gs.done {D P d1 d2 p2 p q r top t : Nat} (h : Gs D P d1 d2 p2 p q r top t) (hq : q ≤ B32) (hc : q * d2 ≤ r * B32 + p2) : q ≤ P / D + 1 := by
  rcases Nat.eq_zero_or_pos q with h0 | h0
  · rw [h0]; exact Nat.zero_le _
  have key : q - 1 ≤ P / D := by
    rw [Nat.le_div_iff_mul_le h.D0]
    have e1 : q * (d1 * B32 + d2) ≤ top * B32 + p2 := by
      have : top * B32 = q * (d1 * B32) + r * B32 := by rw [← h.eq, Nat.add_mul, Nat.mul_assoc]
      rw [this, Nat.mul_add]; omega
    have e2 : (q - 1) * (d1 * B32 + d2 + 1) ≤ top * B32 + p2 := by
      obtain ⟨k, rfl⟩ : ∃ k, q = k + 1 := ⟨q - 1, by omega⟩
      rw [Nat.add_mul, Nat.one_mul] at e1
      have hb : B32 ≤ d1 * B32 := Nat.le_mul_of_pos_left _ h.d1p
      rw [Nat.add_sub_cancel, Nat.mul_add k (d1 * B32 + d2) 1, Nat.mul_one]
      omega
    have e3 := Nat.mul_le_mul_right p e2
    have e4 := Nat.mul_le_mul_left (q - 1) (Nat.le_of_lt h.Dh)
    rw [← Nat.mul_assoc] at e4
    have := h.Pl
    omega
  generalize P / D = z at *
  omega

theorem Gs.next {D P d1 d2 p2 p q r top t : Nat} (h : Gs D P d1 d2 p2 p q r top t) (hl : P / D ≤ q - 1) (hq : 1 ≤ q) : Gs D P d1 d2 p2 p (q - 1) (r + d1) top t :=
  { h with
    eq := by
      obtain ⟨k, rfl⟩ : ∃ k, q = k + 1 := ⟨q - 1, by omega⟩
      have := h.eq
      rw [Nat.add_mul, Nat.one_mul] at this
      rw [Nat.add_sub_cancel]; omega
    lo := hl }

/-- When the rest has become too large, the guess is small enough. -/
theorem Gs.broke {D P d1 d2 p2 p q r top t : Nat} (h : Gs D P d1 d2 p2 p q r top t) (hr : B32 ≤ r) : q < B32 ∧ q ≤ P / D + 1 := by
  have h1 : q < B32 := by
    have h2 : q * d1 < B32 * d1 := by
      have e1 := h.eq
      have e2 := h.toph
      rw [Nat.add_mul, Nat.one_mul] at e2
      rw [Nat.mul_comm B32]; omega
    exact Nat.lt_of_mul_lt_mul_right h2
  refine ⟨h1, h.done (Nat.le_of_lt h1) ?_⟩
  have h3 : q * d2 ≤ B32 * B32 := Nat.mul_le_mul (Nat.le_of_lt h1) (Nat.le_of_lt h.d2l)
  have h4 := Nat.mul_le_mul_right B32 hr
  omega

theorem Gs.start {D P m : Nat} (hm : 2 ≤ m) (hD : D < B32 ^ m) (hP : P < D * B32) (h1 : 1 ≤ wd D (m - 1)) :
    Gs D P (wd D (m - 1)) (wd D (m - 2)) (wd P (m - 2)) (B32 ^ (m - 2)) ((wd P m * B32 + wd P (m - 1)) / wd D (m - 1)) ((wd P m * B32 + wd P (m - 1)) % wd D (m - 1)) (wd P m * B32 + wd P (m - 1)) 0 := by
  obtain ⟨k, rfl⟩ : ∃ k, m = k + 2 := ⟨m - 2, by omega⟩
  simp only [Nat.add_sub_cancel, show k + 2 - 1 = k + 1 by omega]
  rw [show k + 2 - 1 = k + 1 by omega] at h1
  have hp := b32_pos k
  have hPl : P < B32 ^ (k + 2 + 1) := by
    rw [Nat.pow_succ]
    exact Nat.lt_trans hP (Nat.mul_lt_mul_of_pos_right hD (by decide))
  have eD0 : D / B32 ^ (k + 2) = 0 := Nat.div_eq_of_lt hD
  have eD1 := hi_step D (k + 1)
  rw [show k + 1 + 1 = k + 2 by omega, eD0, Nat.zero_mul, Nat.zero_add] at eD1
  have eD2 := hi_step D k
  rw [eD1] at eD2
  have eP0 : P / B32 ^ (k + 2 + 1) = 0 := Nat.div_eq_of_lt hPl
  have eP1 := hi_step P (k + 2)
  rw [eP0, Nat.zero_mul, Nat.zero_add] at eP1
  have eP2 := hi_step P (k + 1)
  rw [show k + 1 + 1 = k + 2 by omega, eP1] at eP2
  have eP3 := hi_step P k
  rw [eP2] at eP3
  have b1 : wd D (k + 1) < B32 := wd_lt _ _
  have b2 : wd D k < B32 := wd_lt _ _
  have b3 : wd P k < B32 := wd_lt _ _
  have dD := Nat.div_add_mod D (B32 ^ k)
  have dP := Nat.div_add_mod P (B32 ^ k)
  have mD := Nat.mod_lt D hp
  have mP := Nat.mod_lt P hp
  rw [eD2] at dD
  rw [eP3] at dP
  have hD0 : 0 < D := by
    rcases Nat.eq_zero_or_pos D with e | e
    · rw [e, wd_zero] at h1; omega
    · exact e
  generalize wd D (k + 1) = d1 at *
  generalize wd D k = d2 at *
  generalize wd P k = p2 at *
  generalize wd P (k + 2) = x at *
  generalize wd P (k + 1) = y at *
  generalize hp' : B32 ^ k = p at *
  have hDl : (d1 * B32 + d2) * p ≤ D := by rw [Nat.mul_comm]; omega
  have hDh : D < (d1 * B32 + d2 + 1) * p := by rw [Nat.add_mul, Nat.mul_comm _ p]; omega
  have hPl2 : ((x * B32 + y) * B32 + p2) * p ≤ P := by rw [Nat.mul_comm]; omega
  have hPh : P < ((x * B32 + y) * B32 + p2 + 1) * p := by rw [Nat.add_mul, Nat.mul_comm _ p]; omega
  have htop : x * B32 + y < (d1 + 1) * B32 := by
    have t1 : (x * B32 + y) * B32 * p ≤ P := Nat.le_trans (Nat.mul_le_mul_right _ (Nat.le_add_right _ _)) hPl2
    have t2 : D * B32 < (d1 + 1) * B32 * B32 * p := by
      have : D < (d1 + 1) * B32 * p := Nat.lt_of_lt_of_le hDh (Nat.mul_le_mul_right _ (by rw [Nat.add_mul]; omega))
      have := Nat.mul_lt_mul_of_pos_right this (show 0 < B32 by decide)
      rwa [Nat.mul_right_comm ((d1 + 1) * B32) p B32] at this
    have t3 : (x * B32 + y) * B32 * p < (d1 + 1) * B32 * B32 * p := by omega
    exact Nat.lt_of_mul_lt_mul_right (Nat.lt_of_mul_lt_mul_right t3)
  refine ⟨?_, ?_, h1, b1, b2, b3, hDl, hDh, hPl2, hPh, htop, hD0, hp⟩
  · rw [Nat.mul_comm]; exact Nat.div_add_mod _ _
  · rw [Nat.le_div_iff_mul_le (by omega)]
    have a1 : P / D * D ≤ P := Nat.div_mul_le_self _ _
    have a2 : P / D * (d1 * B32 * p) ≤ P := Nat.le_trans (Nat.mul_le_mul_left _ (Nat.le_trans (Nat.mul_le_mul_right _ (Nat.le_add_right _ _)) hDl)) a1
    have a3 : P < (x * B32 + y + 1) * (B32 * p) := by
      rw [← Nat.mul_assoc]
      exact Nat.lt_of_lt_of_le hPh (Nat.mul_le_mul_right _ (by rw [Nat.add_mul (x * B32 + y) 1 B32]; omega))
    have a4 : P / D * d1 * (B32 * p) < (x * B32 + y + 1) * (B32 * p) := by
      rw [Nat.mul_assoc (P / D), ← Nat.mul_assoc d1]; omega
    exact Nat.le_of_lt_succ (Nat.lt_of_mul_lt_mul_right a4)

/-- The quotient, or one more; the world has only drawn. -/
def GuessP (P D : Nat) (w : World) (e : Ending) (w' : World) : Prop := (∃ q : Nat, e = .returned (.int .u32 q) ∧ P / D ≤ q ∧ q ≤ P / D + 1 ∧ q < 4294967296) ∧ ∃ k, w.drewN k = w'
/-- What the loop knows of its slots. -/
def GuessR (D P d1 d2 p2 m top : Nat) (q r : Value) : Prop := ∃ q1 r1 : Nat, q = .int .u64 q1 ∧ r = .int .u64 r1 ∧ r1 < 4294967296 ∧ q1 ≤ 18446744073709551615 ∧ Hid (Gs D P d1 d2 p2 (B32 ^ (m - 2)) q1 r1 top 0)
theorem hi_zero {q : Nat} (h : q < 4294967296) : ((q : Int) / 4294967296 != 0) = false := by
  have : (q : Int) / 4294967296 = 0 := by omega
  rw [this]; rfl
theorem hi_one {q : Nat} (h : 4294967296 ≤ q) : ((q : Int) / 4294967296 != 0) = true := by
  rw [bne_iff_ne]; omega
theorem u64_or_lo (r a : Nat) (h : r < 4294967296) (ha : a < 4294967296) : bits .or .u64 ((r : Int) * 4294967296) (a : Int) = ((r * 4294967296 + a : Nat) : Int) := u64_shl_or r a h ha

set_option maxHeartbeats 800000 in
set_option maxRecDepth 20000 in
theorem guess_any (g o gd m n c cd D P : Nat) (w : World) (hm : 2 ≤ m) (hmn : n = m + 1) (hn : n ≤ c) (hc : c ≤ 1000) (hmd : m ≤ cd) (hcd : cd ≤ 1000)
    (hD : D < B32 ^ m) (hnorm : 2147483648 ≤ wd D (m - 1)) (hP : P < D * B32) (hp : Words w g o (m + 1) P) (hd : Words w gd 0 m D) :
    Calls Tryd.prog 53 #[.slice (some ⟨g, o, none⟩) n c, .slice (some ⟨gd, 0, none⟩) m cd] w (GuessP P D w) := by
  have c1 := hd (m - 1) (by omega)
  have c2 := hd (m - 2) (by omega)
  have c3 := hp m (by omega)
  have c4 := hp (m - 1) (by omega)
  have c5 := hp (m - 2) (by omega)
  rw [Nat.zero_add] at c1 c2
  have b1 := wd_lt D (m - 1)
  have b2 := wd_lt D (m - 2)
  have b3 := wd_lt P m
  have b4 := wd_lt P (m - 1)
  have b5 := wd_lt P (m - 2)
  have hs := Gs.start hm hD hP (by omega)
  have HS := Lib.hid hs; clear hs
  generalize wd D (m - 1) = d1 at *
  generalize wd D (m - 2) = d2 at *
  generalize wd P m = x at *
  generalize wd P (m - 1) = y at *
  generalize wd P (m - 2) = p2 at *
  have hor := u64_shl_or x y b3 b4
  have htop : x * 4294967296 + y ≤ 18446744073709551615 := by omega
  obtain ⟨top, htp⟩ : ∃ top, top = x * 4294967296 + y := ⟨_, rfl⟩
  rw [← htp] at hor htop
  have hnz : ((d1 : Int) == 0) = false := by rw [beq_eq_false_iff_ne]; omega
  have hnn : (n : Int) = (m : Int) + 1 := by omega
  have i1 : (m : Int) - 1 < (m : Int) := by omega
  have i2 : (0 : Int) ≤ (m : Int) - 1 := by omega
  have i3 : (m : Int) - 2 < (m : Int) := by omega
  have i4 : (0 : Int) ≤ (m : Int) - 2 := by omega
  have i5 : ((m : Int) - 1).toNat = m - 1 := by omega
  have i6 : ((m : Int) - 2).toNat = m - 2 := by omega
  have w1 : IntKind.i64.wrap ((m : Int) - 1) = (m : Int) - 1 := IntWalk.i64_in _ (by omega)
  have w2 : IntKind.i64.wrap ((m : Int) - 2) = (m : Int) - 2 := IntWalk.i64_in _ (by omega)
  have HT := Lib.hid htp; clear htp
  subst hmn
  clear hnn
  go_enter Tryd.func53, Tryd.ntmps53
  go_wp2
  go_quiet (fail)
  go_wp2
  go_quiet (fail)
  have e0 : top / d1 ≤ top := Nat.div_le_self _ _
  have e0' : top % d1 < d1 := Nat.mod_lt _ (by omega)
  have hbeq : x * B32 + y = top := HT.out.symm
  have HS2 := HS.out
  rw [hbeq] at HS2
  have HS3 := Lib.hid HS2; clear HS2 hbeq HS
  obtain ⟨q0, hq0⟩ : ∃ q, q = top / d1 := ⟨_, rfl⟩
  obtain ⟨r0, hr0⟩ : ∃ r, r = top % d1 := ⟨_, rfl⟩
  rw [← hq0, ← hr0] at HS3
  rw [← hq0] at e0
  rw [← hr0] at e0'
  have e1 : (top : Int) / (d1 : Int) = (q0 : Int) := by rw [hq0]; rfl
  have e2 : (top : Int) % (d1 : Int) = (r0 : Int) := by rw [hr0]; rfl
  have e3 : (top : Int).tdiv (d1 : Int) = (q0 : Int) := by rw [hq0]; rfl
  have e4 : (top : Int).tmod (d1 : Int) = (r0 : Int) := by rw [hr0]; rfl
  have e5 : IntKind.u64.wrap (q0 : Int) = (q0 : Int) := IntWalk.u64_in _ (by omega)
  clear hq0 hr0 hor
  go_wp2
  go_quiet (fail)
  clear e1 e2 e3 e4 e5
  go_wp2
  go_loop [9, 10] (fun q r => GuessR D P d1 d2 p2 m top q r) (fun q _ => (intOf q).toNat)
  case atStart => exact ⟨q0, r0, rfl, rfl, by omega, by omega, HS3⟩
  case round =>
    obtain ⟨q, r, rfl, rfl, hr, hq, HG⟩ := hrel
    have hB : B32 = 4294967296 := rfl
    by_cases hbig : 4294967296 ≤ q
    · have hdn := HG.out.down hP (.inl hbig)
      have HN := Lib.hid (HG.out.next hdn.1 hdn.2)
      have hq1 : 1 ≤ q := hdn.2
      have t1 := hi_one hbig
      clear hdn HG hB
      by_cases hbr : 4294967296 ≤ r + d1
      · have t2 := hi_one hbr
        have hfin := HN.out.broke hbr
        have HF := Lib.hid hfin; clear hfin
        have hql : q - 1 < 4294967296 := HF.out.1
        go_wp2
        go_ret
        exact ⟨⟨q - 1, ret_int (by omega), HN.out.lo, HF.out.2, hql⟩, ⟨_, rfl⟩⟩
      · have t2 := hi_zero (show r + d1 < 4294967296 by omega)
        go_wp2
        go_round
        case rel => exact ⟨q - 1, r + d1, int_eq (by omega), int_eq (by omega), by omega, by omega, HN⟩
        case measure => simp [intOf]; omega
    · have t0 := hi_zero (show q < 4294967296 by omega)
      have hor := u64_or_lo r p2 hr b5
      have hmul : q * d2 ≤ 18446744065119617025 := Nat.mul_le_mul (show q ≤ 4294967295 by omega) (show d2 ≤ 4294967295 by omega)
      by_cases hgt : r * 4294967296 + p2 < q * d2
      · have hdn := HG.out.down hP (.inr hgt)
        have HN := Lib.hid (HG.out.next hdn.1 hdn.2)
        have hq1 : 1 ≤ q := hdn.2
        have t3 : ((r * 4294967296 + p2 : Nat) : Int) < (q : Int) * (d2 : Int) := by rw [← Int.natCast_mul]; omega
        obtain ⟨z, hz⟩ : ∃ z, z = r * 4294967296 + p2 := ⟨_, rfl⟩
        rw [← hz] at hor t3 hgt
        have HZ := Lib.hid hz; clear hz
        clear hdn HG hB
        by_cases hbr : 4294967296 ≤ r + d1
        · have t2 := hi_one hbr
          have hfin := HN.out.broke hbr
          have HF := Lib.hid hfin; clear hfin
          have hql : q - 1 < 4294967296 := HF.out.1
          go_wp2
          go_ret
          exact ⟨⟨q - 1, ret_int (by omega), HN.out.lo, HF.out.2, hql⟩, ⟨_, rfl⟩⟩
        · have t2 := hi_zero (show r + d1 < 4294967296 by omega)
          go_wp2
          go_round
          case rel => exact ⟨q - 1, r + d1, int_eq (by omega), int_eq (by omega), by omega, by omega, HN⟩
          case measure => simp [intOf]; omega
      · have hfin := HG.out.done (by omega) (by rw [hB]; omega)
        have hlo := HG.out.lo
        have HF := Lib.hid hfin
        have HL := Lib.hid hlo
        have t3 : ¬ ((r * 4294967296 + p2 : Nat) : Int) < (q : Int) * (d2 : Int) := by rw [← Int.natCast_mul]; omega
        obtain ⟨z, hz⟩ : ∃ z, z = r * 4294967296 + p2 := ⟨_, rfl⟩
        rw [← hz] at hor t3 hgt
        have HZ := Lib.hid hz; clear hz
        clear hfin hlo HG hB
        have hql : q < 4294967296 := by omega
        go_wp2
        go_ret
        exact ⟨⟨q, rfl, HL.out, HF.out, hql⟩, ⟨_, rfl⟩⟩
end Go.Proofs.YtjbcicgbemepbaaDoor
